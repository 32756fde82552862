import Derived.Test.YtlljggefbngkeaaGreatDoorV42
import Derived.Test.YtlljggefbngkeaaGreatDoorV21
import Derived.Test.YtlljggefbngkeaaGreatDoorV34
import Derived.Test.YtlljggefbngkeaaGreatDoorV33
import Derived.Test.YtlljggefbngkeaaGreatDoorV12
namespace Go.Proofs.YtlljggefbngkeaaGreatDoor
open Go.RowKit Go.Shelf


set_option maxRecDepth 100000 in
set_option maxHeartbeats 1600000 in
theorem lget_said {Y : Nat → Prop} {w : World} {b : Nat} {c : BT} {u : List UInt8} (hC : CL Y w b c) (hne : bNE c) (hz : bsz c ≤ 800) (hu : u.length ≤ 1000) :
    Calls Tryz.prog 34 #[.pointer (some ⟨b, 0, none⟩), .string (txt u)] w fun e w' => (∃ r m, ((M (bS c) u ∧ r = getF c u ∧ m = 0) ∨ (¬ M (bS c) u ∧ r = [] ∧ m = 1)) ∧ e = .returned (.tuple #[.string (txt r), .int .i64 m])) ∧ K0 w w' := by
  have hmf : ∀ (fn : Fn) (first cap : Array Value) (w : World), (Instr.makeFunc fn first cap).run Tryz.prog w = .ok (.func fn first cap) w := fun _ _ _ _ => rfl
  obtain ⟨w3, hw3, hs3, p0, p1, hg3⟩ := two_at w (.cells #[.pointer (some ⟨b, 0, none⟩)] 57) (.cells #[.string (txt u)] 9)
  have hk0 := K0.of_grownz hg3
  obtain ⟨f1, f2, f3, hb, yb, l1, l2, l3⟩ := hC
  have hky := hk0.ky Y
  have HD : Hid (∃ r m, ((M (bS c) u ∧ r = getF c u ∧ m = 0) ∨ (¬ M (bS c) u ∧ r = [] ∧ m = 1)) ∧ Calls Tryz.prog 48 #[.func (.func 49) #[] #[.pointer (some ⟨w.heap.size, 0, none⟩), .pointer (some ⟨w.heap.size + 1, 0, none⟩)]] w3 fun e w' => e = .returned (.tuple #[.string (txt r), .int .i64 m]) ∧ K0 w3 w') := hide (by
    rcases Classical.em (M (bS c) u) with hm | hm
    · refine ⟨getF c u, 0, .inl ⟨hm, rfl, rfl⟩, caught_ok clone_said (enters_of Tryz.func49 (by kernel_rfl) rfl) (get_small hne hz u hm hu) (fun W hW => ?_)⟩
      exact get1_ok (Y := Y) ((hW.heap (heap_lt p0)).trans p0) ((hW.heap (heap_lt p1)).trans p1) ((hW.heap (heap_lt (hky.heap hb yb))).trans (hky.heap hb yb)) ((l1.ky hky).ky (hW.ky Y)) hu hm
    · refine ⟨[], 1, .inr ⟨hm, rfl, rfl⟩, caught_no (enters_of Tryz.func49 (by kernel_rfl) rfl) (fun W hW => ?_)⟩
      exact get1_no (Y := Y) ((hW.heap (heap_lt p0)).trans p0) ((hW.heap (heap_lt p1)).trans p1) ((hW.heap (heap_lt (hky.heap hb yb))).trans (hky.heap hb yb)) ((l1.ky hky).ky (hW.ky Y)) hu hm)
  obtain ⟨r, m, hrm, hcl⟩ := unhide HD
  have H1 := hide (And.intro hrm hk0)
  have H2 := hide hcl
  clear hb yb l1 l2 l3 hne hz hky HD hrm hcl hk0 hg3 p0 p1 hs3
  go_enter Tryz.func34, Tryz.ntmps34
  go_wp2_with fail
  refine (unhide H2).mono ?_
  rintro e w4 ⟨rfl, hk4⟩
  go_wp2
  go_ret2
  exact ⟨⟨r, m, (unhide H1).1, rfl⟩, (unhide H1).2.trans hk4⟩

set_option maxRecDepth 100000 in
set_option maxHeartbeats 1600000 in
theorem lmake_said {Y : Nat → Prop} {w : World} {b : Nat} {c : BT} {u : List UInt8} (hC : CL Y w b c) (hne : bNE c) (hz : bsz c ≤ 800) (hu : u.length ≤ 1000) :
    Calls Tryz.prog 40 #[.pointer (some ⟨b, 0, none⟩), .string (txt u)] w fun e w' => (∃ r m, ((M (bV c) u ∧ r = makeF c u ∧ m = 0) ∨ (¬ M (bV c) u ∧ r = [] ∧ m = 2)) ∧ e = .returned (.tuple #[.string (txt r), .int .i64 m])) ∧ K0 w w' := by
  have hmf : ∀ (fn : Fn) (first cap : Array Value) (w : World), (Instr.makeFunc fn first cap).run Tryz.prog w = .ok (.func fn first cap) w := fun _ _ _ _ => rfl
  obtain ⟨w3, hw3, hs3, p0, p1, hg3⟩ := two_at w (.cells #[.pointer (some ⟨b, 0, none⟩)] 57) (.cells #[.string (txt u)] 9)
  have hk0 := K0.of_grownz hg3
  obtain ⟨f1, f2, f3, hb, yb, l1, l2, l3⟩ := hC
  have hky := hk0.ky Y
  have HD : Hid (∃ r m, ((M (bV c) u ∧ r = makeF c u ∧ m = 0) ∨ (¬ M (bV c) u ∧ r = [] ∧ m = 2)) ∧ Calls Tryz.prog 48 #[.func (.func 51) #[] #[.pointer (some ⟨w.heap.size, 0, none⟩), .pointer (some ⟨w.heap.size + 1, 0, none⟩)]] w3 fun e w' => e = .returned (.tuple #[.string (txt r), .int .i64 m]) ∧ K0 w3 w') := hide (by
    rcases Classical.em (M (bV c) u) with hm | hm
    · refine ⟨makeF c u, 0, .inl ⟨hm, rfl, rfl⟩, caught_ok clone_said (enters_of Tryz.func51 (by kernel_rfl) rfl) (make_small hne hz u hm hu) (fun W hW => ?_)⟩
      exact make1_ok (Y := Y) ((hW.heap (heap_lt p0)).trans p0) ((hW.heap (heap_lt p1)).trans p1) ((hW.heap (heap_lt (hky.heap hb yb))).trans (hky.heap hb yb)) ((l3.ky hky).ky (hW.ky Y)) hu hm
    · refine ⟨[], 2, .inr ⟨hm, rfl, rfl⟩, caught_no (enters_of Tryz.func51 (by kernel_rfl) rfl) (fun W hW => ?_)⟩
      exact make1_no (Y := Y) ((hW.heap (heap_lt p0)).trans p0) ((hW.heap (heap_lt p1)).trans p1) ((hW.heap (heap_lt (hky.heap hb yb))).trans (hky.heap hb yb)) ((l3.ky hky).ky (hW.ky Y)) hu hm)
  obtain ⟨r, m, hrm, hcl⟩ := unhide HD
  have H1 := hide (And.intro hrm hk0)
  have H2 := hide hcl
  clear hb yb l1 l2 l3 hne hz hky HD hrm hcl hk0 hg3 p0 p1 hs3
  go_enter Tryz.func40, Tryz.ntmps40
  go_wp2_with fail
  refine (unhide H2).mono ?_
  rintro e w4 ⟨rfl, hk4⟩
  go_wp2
  go_ret2
  exact ⟨⟨r, m, (unhide H1).1, rfl⟩, (unhide H1).2.trans hk4⟩

set_option maxRecDepth 100000 in
set_option maxHeartbeats 1600000 in
theorem lput_said {Y : Nat → Prop} {w : World} {b : Nat} {c : BT} {v u : List UInt8} (hC : CL Y w b c) (hne : bNE c) (hz : bsz c ≤ 800) (hv : v.length ≤ 1000) (hu : u.length ≤ 1000) :
    Calls Tryz.prog 37 #[.pointer (some ⟨b, 0, none⟩), .string (txt v), .string (txt u)] w fun e w' => (∃ r m, ((M (bV c) v ∧ M (bS c) u ∧ r = putF c v u ∧ m = 0) ∨ (¬ M (bV c) v ∧ r = [] ∧ m = 2) ∨ (M (bV c) v ∧ ¬ M (bS c) u ∧ r = [] ∧ m = 1)) ∧ e = .returned (.tuple #[.string (txt r), .int .i64 m])) ∧ K0 w w' := by
  have hmf : ∀ (fn : Fn) (first cap : Array Value) (w : World), (Instr.makeFunc fn first cap).run Tryz.prog w = .ok (.func fn first cap) w := fun _ _ _ _ => rfl
  obtain ⟨w3, hw3, hs3, p0, p1, p2, hg3⟩ := thr_at w (.cells #[.pointer (some ⟨b, 0, none⟩)] 57) (.cells #[.string (txt v)] 9) (.cells #[.string (txt u)] 9)
  have hk0 := K0.of_grownz hg3
  obtain ⟨f1, f2, f3, hb, yb, l1, l2, l3⟩ := hC
  have hky := hk0.ky Y
  have HD : Hid (∃ r m, ((M (bV c) v ∧ M (bS c) u ∧ r = putF c v u ∧ m = 0) ∨ (¬ M (bV c) v ∧ r = [] ∧ m = 2) ∨ (M (bV c) v ∧ ¬ M (bS c) u ∧ r = [] ∧ m = 1)) ∧ Calls Tryz.prog 48 #[.func (.func 50) #[] #[.pointer (some ⟨w.heap.size, 0, none⟩), .pointer (some ⟨w.heap.size + 1, 0, none⟩), .pointer (some ⟨w.heap.size + 2, 0, none⟩)]] w3 fun e w' => e = .returned (.tuple #[.string (txt r), .int .i64 m]) ∧ K0 w3 w') := hide (by
    rcases Classical.em (M (bV c) v) with hm | hm
    · rcases Classical.em (M (bS c) u) with hn | hn
      · refine ⟨putF c v u, 0, .inl ⟨hm, hn, rfl, rfl⟩, caught_ok clone_said (enters_of Tryz.func50 (by kernel_rfl) rfl) (put_small hne hz v u hm hn hv hu) (fun W hW => ?_)⟩
        exact put1_ok (Y := Y) ((hW.heap (heap_lt p0)).trans p0) ((hW.heap (heap_lt p1)).trans p1) ((hW.heap (heap_lt p2)).trans p2) ((hW.heap (heap_lt (hky.heap hb yb))).trans (hky.heap hb yb)) ((l2.ky hky).ky (hW.ky Y)) hv hu hm hn
      · refine ⟨[], 1, .inr (.inr ⟨hm, hn, rfl, rfl⟩), caught_no (enters_of Tryz.func50 (by kernel_rfl) rfl) (fun W hW => ?_)⟩
        exact put1_no (Y := Y) ((hW.heap (heap_lt p0)).trans p0) ((hW.heap (heap_lt p1)).trans p1) ((hW.heap (heap_lt p2)).trans p2) ((hW.heap (heap_lt (hky.heap hb yb))).trans (hky.heap hb yb)) ((l2.ky hky).ky (hW.ky Y)) hv hu (.inr ⟨hm, hn, rfl⟩)
    · refine ⟨[], 2, .inr (.inl ⟨hm, rfl, rfl⟩), caught_no (enters_of Tryz.func50 (by kernel_rfl) rfl) (fun W hW => ?_)⟩
      exact put1_no (Y := Y) ((hW.heap (heap_lt p0)).trans p0) ((hW.heap (heap_lt p1)).trans p1) ((hW.heap (heap_lt p2)).trans p2) ((hW.heap (heap_lt (hky.heap hb yb))).trans (hky.heap hb yb)) ((l2.ky hky).ky (hW.ky Y)) hv hu (.inl ⟨hm, rfl⟩))
  obtain ⟨r, m, hrm, hcl⟩ := unhide HD
  have H1 := hide (And.intro hrm hk0)
  have H2 := hide hcl
  clear hb yb l1 l2 l3 hne hz hky HD hrm hcl hk0 hg3 p0 p1 p2 hs3
  go_enter Tryz.func37, Tryz.ntmps37
  go_wp2_with fail
  refine (unhide H2).mono ?_
  rintro e w4 ⟨rfl, hk4⟩
  go_wp2
  go_ret2
  exact ⟨⟨r, m, (unhide H1).1, rfl⟩, (unhide H1).2.trans hk4⟩

/-- the lens is refused, with the error c -/
def LBad (s : ByteArray) (c : Int) : Prop := (∃ p, ErrOut s c p ∧ (c = 1 ∨ c = 2 ∨ c = 3)) ∨ (c = 4 ∧ ∃ t, TreeOf s t ∧ ∃ x u, x ∈ joints_ t ∧ JWit x.1 x.2 u)
/-- the lens is taken -/
def LGood (s : ByteArray) (t : LT) : Prop := TreeOf s t ∧ ∀ x, x ∈ joints_ t → ∀ u, ¬ JWit x.1 x.2 u
theorem ErrOut.det {s : ByteArray} {c d : Int} {p q : Nat} (h : ErrOut s c p) (k : ErrOut s d q) : c = d ∧ p = q := by
  rcases h with ⟨h1, h2, h3⟩ | ⟨h1, h2⟩ <;> rcases k with ⟨k1, k2, k3⟩ | ⟨k1, k2⟩
  · exact ⟨by omega, by omega⟩
  · omega
  · omega
  · cases hr : gRows s (6 * s.size + 5) 0 with
    | err r => rw [hr] at h2 k2; exact ⟨by omega, by omega⟩
    | ok x j =>
      rw [hr] at h2 k2
      rcases h2 with ⟨a, b, c⟩ | ⟨a, b, c⟩ <;> rcases k2 with ⟨d, e, f⟩ | ⟨d, e, f⟩
      · exact ⟨by omega, by omega⟩
      · omega
      · omega
      · have := b.det e
        injection this with this
        exact ⟨by omega, this⟩
theorem LBad.nz {s : ByteArray} {c : Int} (h : LBad s c) : c = 1 ∨ c = 2 ∨ c = 3 ∨ c = 4 := by
  rcases h with ⟨_, _, h⟩ | ⟨h, _⟩ <;> omega
theorem LBad.det {s : ByteArray} {c d : Int} (h : LBad s c) (k : LBad s d) : c = d := by
  rcases h with ⟨p, h1, h2⟩ | ⟨h1, t, h2, h3⟩ <;> rcases k with ⟨q, k1, k2⟩ | ⟨k1, t', k2, k3⟩
  · exact (h1.det k1).1
  · exact (k2.no_err h1).elim
  · exact (h2.no_err k1).elim
  · omega
theorem LGood.det {s : ByteArray} {t u : LT} (h : LGood s t) (k : LGood s u) : t = u := h.1.det k.1
theorem LBad.not {s : ByteArray} {c : Int} {t : LT} (h : LBad s c) (k : LGood s t) : False := by
  rcases h with ⟨p, h1, h2⟩ | ⟨h1, t', h2, x, u, h3, h4⟩
  · exact k.1.no_err h1
  · obtain rfl := h2.det k.1
    exact k.2 x h3 u h4
theorem LGood.nb {s : ByteArray} {t : LT} (h : LGood s t) (hb : bNE (toB t)) : NB t := by
  obtain ⟨h1, h2⟩ := tree_wf h.1
  exact ⟨h1, h2, hb, by have := toB_bsz t; omega⟩

/-- what compiled answers -/
def CoPost (s : ByteArray) (us : List (List UInt8)) (w : World) (e : Ending) (w' : World) : Prop :=
  K0 w w' ∧ ((∃ c, LBad s c ∧ e = .returned (.tuple #[.pointer none, .int .i64 c])) ∨ (∃ t, LGood s t ∧ (((∃ u, u ∈ us ∧ 60 < u.length) ∧ e = .returned (.tuple #[.pointer none, .int .i64 1])) ∨
    ((∀ u, u ∈ us → u.length ≤ 60) ∧ ∃ b, CL (fun k => k < w.heap.size) w' b (toB t) ∧ e = .returned (.tuple #[.pointer (some ⟨b, 0, none⟩), .int .i64 0])))))

set_option maxRecDepth 100000 in
set_option maxHeartbeats 3200000 in
theorem compiled_said (s : ByteArray) {w : World} {vb n cp : Nat} {us : List (List UInt8)} (hm : s.size ≤ maxLen) (hTab : Tab w) (hne : ∀ t, LGood s t → bNE (toB t)) (hown : w.ownsRow 0 9 1 (.slice (some ⟨vb, 0, none⟩) n cp) us.length (strs_ us)) (hus : us.length ≤ 10) (hlen : ∀ u, u ∈ us → u.length ≤ maxLen) :
    Calls Tryz.prog 33 #[.string s, .slice (some ⟨vb, 0, none⟩) n cp] w fun e w' => CoPost s us w e w' := by
  have hn : n = us.length := by
    rcases hown.2 with ⟨h', _⟩ | ⟨g', cap', cur, h', _⟩
    · simp at h'
    · injection h'
  subst hn
  have hvl : vb < w.heap.size := own_lt hown vb rfl
  have HX := hide (examine_said s w hm hTab)
  have HO := hide (And.intro hown (And.intro hne hlen))
  clear hTab hown hne hlen
  go_enter Tryz.func33, Tryz.ntmps33
  go_wp2_with fail
  refine (unhide HX).mono ?_
  rintro e w1 ⟨hg1, (⟨c, p, h1, hc, rfl⟩ | ⟨t, h1, (⟨t', k, p, u, q1, q2, q3, q4, rfl⟩ | ⟨q, g, hL, rfl⟩)⟩)⟩
  · have q3 : (c != 0) = true := by rw [bne_iff_ne]; omega
    have H1 := hide (And.intro h1 (And.intro hc hg1))
    clear h1 hg1 hc
    go_wp2
    go_ret2
    exact ⟨K0.of_grownz (unhide H1).2.2, .inl ⟨c, .inl ⟨p, (unhide H1).1, (unhide H1).2.1⟩, rfl⟩⟩
  · have H1 := hide (And.intro h1 (And.intro (show ∃ x u, x ∈ joints_ t ∧ JWit x.1 x.2 u from ⟨(t', k), u, q1, q3⟩) hg1))
    clear h1 q1 q2 q3 q4 hg1
    go_wp2
    go_ret2
    exact ⟨K0.of_grownz (unhide H1).2.2, .inl ⟨4, .inr ⟨rfl, t, (unhide H1).1, (unhide H1).2.1⟩, rfl⟩⟩
  · have hk1 := K0.of_grownz hg1
    have hG : LGood s t := ⟨h1, q⟩
    have HG := hide (And.intro hG hk1)
    have HN := hide (fun (V : World) (hk : K0 w1 V) => new_all s (lsz t) t (Nat.le_refl _) (hG.nb ((unhide HO).2.1 t hG)) V _ g (LR.kept (fun k hk' _ => hk.heap hk') hL) (fun k h => by have := hk1.size; have := hk.size; omega))
    clear h1 q hg1 hL hk1 hG
    go_wp2_with fail
    go_loopg [24] (us.length + 2) (fun gk v24 wv => ∃ (k : Nat), v24 = .int .i64 (k : Int) ∧ k ≤ us.length ∧ us.length - k < gk ∧ (∀ u, u ∈ us.take k → u.length ≤ 60) ∧ wv = w1)
    case atStart => exact ⟨0, rfl, Nat.zero_le _, by omega, fun u h => (by simp at h), rfl⟩
    case round =>
      obtain ⟨k, rfl, hk, hgk, hall, rfl⟩ := hrel
      have hw9 : IntKind.i64.wrap ((k : Int) + 1) = (k : Int) + 1 := IntWalk.i64_in _ (by omega)
      by_cases hlt : k < us.length
      · have hd : (k : Int) < (us.length : Int) := by omega
        obtain ⟨u, hu⟩ : ∃ u, us[k]? = some u := ⟨_, List.getElem?_eq_getElem hlt⟩
        have ck : wr.cell? ⟨vb, k, none⟩ = some (.string (txt u)) := by
          refine (unhide HG).2.cellz (a := ⟨vb, k, none⟩) ?_
          rw [(unhide HO).1.cellAt k (by omega)]
          simp [strs_, hu]
        have hsz : (txt u).size = u.length := txt_size u
        have hul := (unhide HO).2.2 u (List.mem_of_getElem? hu)
        unfold maxLen at hul
        by_cases h60 : 60 < u.length
        · have h60' : (60 : Int) < ((txt u).size : Int) := by rw [hsz]; omega
          have HU := hide (List.mem_of_getElem? hu)
          have HA := hide h60
          clear hall hu hsz h60
          go_wp2
          go_ret2
          exact ⟨(unhide HG).2, .inr ⟨t, (unhide HG).1, .inl ⟨⟨u, unhide HU, unhide HA⟩, rfl⟩⟩⟩
        · have h60' : ¬ (60 : Int) < ((txt u).size : Int) := by rw [hsz]; omega
          have HA := hide (And.intro hall (And.intro hu h60))
          clear hall hu hsz h60
          go_wp2_with fail
          go_roundg (gk - 1)
          case measure => omega
          case rel =>
            obtain ⟨hall, hu, h60⟩ := unhide HA
            refine ⟨k + 1, by go_num, by omega, by omega, fun u' h' => ?_, rfl⟩
            rw [take_snocz hu] at h'
            rcases List.mem_append.1 h' with h' | h'
            · exact hall u' h'
            · rw [List.mem_singleton] at h'
              rw [h']
              omega
      · have hd : ¬ (k : Int) < (us.length : Int) := by omega
        obtain rfl : k = us.length := by omega
        rw [List.take_length] at hall
        have HA := hide hall
        clear hall
        go_wp2_with fail
        refine (unhide HN _ (K0.refl _)).mono ?_
        rintro e w2 ⟨b, rfl, hCL, hk2⟩
        have H2 := hide (And.intro hCL hk2)
        clear hCL hk2
        go_wp2
        go_ret2
        exact ⟨(unhide HG).2.trans (unhide H2).2, .inr ⟨t, (unhide HG).1, .inr ⟨unhide HA, b, (unhide H2).1, rfl⟩⟩⟩

set_option maxHeartbeats 400000 in
theorem refusal_said (m : Int) (hm : m = 0 ∨ m = 1 ∨ m = 2) (w : World) : Calls Tryz.prog 35 #[.int .i64 m] w fun e w' => e = .returned (.int .i64 (if m = 0 then 0 else m + 4)) ∧ w' = w := by
  rcases hm with rfl | rfl | rfl
  · go_enter Tryz.func35, Tryz.ntmps35
    go_wp2
    go_ret
    exact ⟨rfl, rfl⟩
  · go_enter Tryz.func35, Tryz.ntmps35
    go_wp2
    go_ret
    exact ⟨rfl, rfl⟩
  · go_enter Tryz.func35, Tryz.ntmps35
    go_wp2
    go_ret
    exact ⟨rfl, rfl⟩

end Go.Proofs.YtlljggefbngkeaaGreatDoor

namespace Go.Proofs.YtlljggefbngkeaaGreatDoor
open Go.RowKit Go.Shelf

/-! The views and the defaults of a lens that can be read are short. -/
def sOk : LT → Prop
  | .fixed _ _ _ v d _ => v.length ≤ 120 ∧ d.length ≤ 120
  | _ => True
def SOk (t : LT) : Prop := ∀ u, u ∈ subs t → sOk u
theorem SOk.part {t u : LT} (h : SOk t) (hu : u ∈ parts t) : SOk u := fun x hx => h x (by rw [subs_eq]; exact List.mem_cons_of_mem _ (subsL_mem _ u x hu hx))
theorem SOk.self {t : LT} (h : SOk t) : sOk t := h t (by rw [subs_eq]; exact List.mem_cons_self)
theorem SOk.of {t : LT} (h0 : sOk t) (h : ∀ u, u ∈ parts t → SOk u) : SOk t := fun x hx => by
  rw [subs_eq] at hx
  rcases List.mem_cons.1 hx with rfl | hx
  · exact h0
  · obtain ⟨u, h1, h2⟩ := subsL_of _ _ hx
    exact h u h1 x h2
theorem SOk.joinRow {l : List LT} (ps : List Nat) (h : ∀ u, u ∈ l → SOk u) : SOk (joinRow l ps) := by
  match l, h with
  | [], h => exact SOk.of trivial (fun u hu => h u hu)
  | [t], h => exact h t List.mem_cons_self
  | t :: u :: l, h => exact SOk.of trivial (fun u hu => h u hu)
theorem SOk.joinAlt {l : List LT} (ps : List Nat) (h : ∀ u, u ∈ l → SOk u) : SOk (joinAlt l ps) := by
  match l, h with
  | [], h => exact SOk.of trivial (fun u hu => h u hu)
  | [t], h => exact h t List.mem_cons_self
  | t :: u :: l, h => exact SOk.of trivial (fun u hu => h u hu)

theorem gPlain_short {s : ByteArray} (hs : s.size ≤ 120) {n i : Nat} {t : LT} {j : Nat} (h : gPlain s n i = .ok t j) : SOk t := by
  unfold gPlain at h
  cases hg : gAlts s n (i + 1) with
  | err p => rw [hg] at h; cases h
  | ok l k =>
    rw [hg] at h
    simp only [Res.bind] at h
    split at h
    · split at h
      · cases hq : gQuoted s (skipB s (k + 1)) with
        | err p => rw [hq] at h; cases h
        | ok v k1 =>
          rw [hq] at h
          simp only at h
          cases hq2 : gQuoted s (skipB s k1) with
          | err p => rw [hq2] at h; cases h
          | ok d m =>
            rw [hq2] at h
            cases h
            exact SOk.of ⟨by have := (gQuoted_form hq).2.2.1; omega, by have := (gQuoted_form hq2).2.2.1; omega⟩ (fun u hu => absurd hu (List.not_mem_nil))
      · cases h
        exact SOk.of trivial (fun u hu => absurd hu (List.not_mem_nil))
    · cases h

theorem gL_short (s : ByteArray) (hs : s.size ≤ 120) : ∀ n, (∀ i t j, gPiece s n i = .ok t j → SOk t) ∧ (∀ i t j, gItem s n i = .ok t j → SOk t) ∧
    (∀ i x j, gItems s n i = .ok x j → ∀ u, u ∈ x.1 → SOk u) ∧ (∀ i x j, gRows s n i = .ok x j → ∀ u, u ∈ x.1 → SOk u)
  | 0 => ⟨fun i t j h => (by rw [gPiece] at h; cases h), fun i l j h => (by rw [gItem] at h; cases h), fun i l j h => (by rw [gItems] at h; cases h), fun i l j h => (by rw [gRows] at h; cases h)⟩
  | n + 1 => by
    obtain ⟨k1, k2, k3, k4⟩ := gL_short s hs n
    refine ⟨fun i t j h => ?_, fun i t j h => ?_, fun i t j h => ?_, fun i t j h => ?_⟩
    · rw [gPiece] at h
      split at h
      · exact gPlain_short hs h
      · split at h
        · split at h
          · cases hq : gRows s n (skipB s (i + 1) + 1) with
            | err p => rw [hq] at h; cases h
            | ok a j1 =>
              rw [hq] at h
              simp only [Res.bind] at h
              have h1 := k4 _ _ _ hq
              split at h
              · cases hq2 : gRows s n (j1 + 1) with
                | err p => rw [hq2] at h; cases h
                | ok b k =>
                  rw [hq2] at h
                  simp only at h
                  have h3 := k4 _ _ _ hq2
                  split at h
                  · cases h
                    refine SOk.of trivial (fun u hu => ?_)
                    rw [parts] at hu
                    rcases List.mem_cons.1 hu with rfl | hu
                    · exact SOk.joinAlt _ h1
                    · rw [List.mem_singleton] at hu
                      subst hu
                      exact SOk.joinAlt _ h3
                  · cases h
              · cases h
          · cases h
        · split at h
          · cases hq : gRows s n (i + 1) with
            | err p => rw [hq] at h; cases h
            | ok a j1 =>
              rw [hq] at h
              simp only [Res.bind] at h
              have h1 := k4 _ _ _ hq
              split at h
              · cases h
                refine SOk.of trivial (fun u hu => ?_)
                rw [parts, List.mem_singleton] at hu
                subst hu
                exact SOk.joinAlt _ h1
              · cases h
          · cases h
    · rw [gItem] at h
      cases hq : gPiece s n i with
      | err p => rw [hq] at h; cases h
      | ok a j1 =>
        rw [hq] at h
        simp only [Res.bind] at h
        have h1 := k1 _ _ _ hq
        split at h
        · cases h
          refine SOk.of trivial (fun u hu => ?_)
          rw [parts, List.mem_singleton] at hu
          subst hu
          exact h1
        · cases h
          exact h1
    · rw [gItems] at h
      cases hq : gItem s n i with
      | err p => rw [hq] at h; cases h
      | ok a j1 =>
        rw [hq] at h
        simp only [Res.bind] at h
        have h1 := k2 _ _ _ hq
        split at h
        · cases hq2 : gItems s n j1 with
          | err p => rw [hq2] at h; cases h
          | ok b k =>
            rw [hq2] at h
            have h3 := k3 _ _ _ hq2
            cases h
            intro u hu
            rcases List.mem_cons.1 hu with rfl | hu
            · exact h1
            · exact h3 u hu
        · cases h
          intro u hu
          rw [List.mem_singleton] at hu
          subst hu
          exact h1
    · rw [gRows] at h
      cases hq : gItems s n (skipB s i) with
      | err p => rw [hq] at h; cases h
      | ok a j1 =>
        rw [hq] at h
        simp only [Res.bind] at h
        have h1 := k3 _ _ _ hq
        split at h
        · cases hq2 : gRows s n (j1 + 1) with
          | err p => rw [hq2] at h; cases h
          | ok b k =>
            rw [hq2] at h
            have h3 := k4 _ _ _ hq2
            cases h
            intro u hu
            rcases List.mem_cons.1 hu with rfl | hu
            · exact SOk.joinRow _ h1
            · exact h3 u hu
        · cases h
          intro u hu
          rw [List.mem_singleton] at hu
          subst hu
          exact SOk.joinRow _ h1


/-- kinds as they must be; short views and defaults -/
def bSh : BT → Prop
  | .pat _ => True
  | .key _ v d => v.length ≤ 120 ∧ d.length ≤ 120
  | .two kd _ a b => (kd = 114 ∨ kd = 124 ∨ kd = 126) ∧ bSh a ∧ bSh b
  | .star _ a => bSh a
theorem bNE_ofS : ∀ c : BT, bSh c → NoW c → bNE c
  | .pat t, _, _ => trivial
  | .key t v d, h, _ => h
  | .two kd p a b, h, hw => ⟨h.1, bNE_ofS a h.2.1 (fun c hc => hw c (by rw [bsubs]; exact List.mem_cons_of_mem _ (List.mem_append_left _ hc))), bNE_ofS b h.2.2 (fun c hc => hw c (by rw [bsubs]; exact List.mem_cons_of_mem _ (List.mem_append_right _ hc)))⟩
  | .star p a, h, hw => by
    have h0 := hw (.star p a) (bsubs_self _) []
    rw [BWit, if_pos rfl] at h0
    exact ⟨fun e => h0 (.inl e), fun e => h0 (.inr e), bNE_ofS a h (fun c hc => hw c (by rw [bsubs]; exact List.mem_cons_of_mem _ hc))⟩
mutual
theorem toB_sh : ∀ t : LT, SOk t → bSh (toB t)
  | .same l i j, _ => by rw [toB]; trivial
  | .fixed l i j v d a, h => by rw [toB]; exact h.self
  | .swap p a b, h => by rw [toB]; exact ⟨.inr (.inr rfl), toB_sh a (h.part (by simp [parts])), toB_sh b (h.part (by simp [parts]))⟩
  | .group a, h => by rw [toB]; exact toB_sh a (h.part (by simp [parts]))
  | .many p a, h => by rw [toB]; exact toB_sh a (h.part (by simp [parts]))
  | .row l ps, h => by rw [toB]; exact rowB_sh (.inl rfl) l ps (fun u hu => h.part hu)
  | .choice l ps, h => by rw [toB]; exact rowB_sh (.inr (.inl rfl)) l ps (fun u hu => h.part hu)
theorem rowB_sh {kd : Int} (hk : kd = 114 ∨ kd = 124 ∨ kd = 126) : ∀ (l : List LT) (ps : List Nat), (∀ u, u ∈ l → SOk u) → bSh (rowB kd l ps)
  | [], ps, _ => by rw [rowB]; trivial
  | t :: l, ps, h => by rw [rowB]; exact rowG_sh hk l (toB t) ps (toB_sh t (h t List.mem_cons_self)) (fun u hu => h u (List.mem_cons_of_mem _ hu))
theorem rowG_sh {kd : Int} (hk : kd = 114 ∨ kd = 124 ∨ kd = 126) : ∀ (l : List LT) (c : BT) (ps : List Nat), bSh c → (∀ u, u ∈ l → SOk u) → bSh (rowG kd c l ps)
  | [], c, ps, hc, _ => by rw [rowG]; exact hc
  | t :: l, c, ps, hc, h => by rw [rowG]; exact rowG_sh hk l _ ps.tail ⟨hk, hc, toB_sh t (h t List.mem_cons_self)⟩ (fun u hu => h u (List.mem_cons_of_mem _ hu))
end
theorem LGood.noW {s : ByteArray} {t : LT} (h : LGood s t) : NoW (toB t) := fun c hc u hu => by
  obtain ⟨x, hx, u', hu'⟩ := acc_link t (tree_wf h.1).1 c hc u hu
  exact h.2 x hx u' hu'
theorem LGood.ne {s : ByteArray} {t : LT} (h : LGood s t) : bNE (toB t) := by
  refine bNE_ofS _ (toB_sh t ?_) h.noW
  obtain ⟨hs, x, hr, _, rfl⟩ := h.1
  exact SOk.joinAlt _ ((gL_short s hs _).2.2.2 _ _ _ hr)
theorem LGood.bz {s : ByteArray} {t : LT} (h : LGood s t) : bsz (toB t) ≤ 800 := (h.nb h.ne).bz

end Go.Proofs.YtlljggefbngkeaaGreatDoor

namespace Go.Proofs.YtlljggefbngkeaaGreatDoor
open Go.RowKit Go.Shelf

/-- what Get answers -/
def GetR (s : ByteArray) (u r : List UInt8) (c : Int) : Prop := (LBad s c ∧ r = []) ∨ ∃ t, LGood s t ∧ ((60 < u.length ∧ r = [] ∧ c = 1) ∨ (u.length ≤ 60 ∧ M (bS (toB t)) u ∧ r = getF (toB t) u ∧ c = 0) ∨ (u.length ≤ 60 ∧ ¬ M (bS (toB t)) u ∧ r = [] ∧ c = 5))
/-- what Create answers -/
def MakeR (s : ByteArray) (u r : List UInt8) (c : Int) : Prop := (LBad s c ∧ r = []) ∨ ∃ t, LGood s t ∧ ((60 < u.length ∧ r = [] ∧ c = 1) ∨ (u.length ≤ 60 ∧ M (bV (toB t)) u ∧ r = makeF (toB t) u ∧ c = 0) ∨ (u.length ≤ 60 ∧ ¬ M (bV (toB t)) u ∧ r = [] ∧ c = 6))
/-- what Put answers -/
def PutR (s : ByteArray) (v u r : List UInt8) (c : Int) : Prop := (LBad s c ∧ r = []) ∨ ∃ t, LGood s t ∧ (((60 < v.length ∨ 60 < u.length) ∧ r = [] ∧ c = 1) ∨ (v.length ≤ 60 ∧ u.length ≤ 60 ∧ ((M (bV (toB t)) v ∧ M (bS (toB t)) u ∧ r = putF (toB t) v u ∧ c = 0) ∨ (¬ M (bV (toB t)) v ∧ r = [] ∧ c = 6) ∨ (M (bV (toB t)) v ∧ ¬ M (bS (toB t)) u ∧ r = [] ∧ c = 5))))
theorem GetR.rng {s : ByteArray} {u r : List UInt8} {c : Int} (h : GetR s u r c) : 0 ≤ c ∧ c ≤ 6 := by
  rcases h with ⟨h, _⟩ | ⟨t, _, ⟨_, _, h⟩ | ⟨_, _, _, h⟩ | ⟨_, _, _, h⟩⟩
  · have := h.nz; omega
  · omega
  · omega
  · omega
theorem PutR.rng {s : ByteArray} {v u r : List UInt8} {c : Int} (h : PutR s v u r c) : 0 ≤ c ∧ c ≤ 6 := by
  rcases h with ⟨h, _⟩ | ⟨t, _, ⟨_, _, h⟩ | ⟨_, _, ⟨_, _, _, h⟩ | ⟨_, _, h⟩ | ⟨_, _, _, h⟩⟩⟩
  · have := h.nz; omega
  · omega
  · omega
  · omega
  · omega

set_option maxRecDepth 100000 in
set_option maxHeartbeats 3200000 in
theorem get_call (s : ByteArray) (u : List UInt8) (w : World) (hm : s.size ≤ maxLen) (hu : u.length ≤ maxLen) (hTab : Tab w) :
    Calls Tryz.prog 15 #[.string s, .string (txt u)] w fun e w' => (∃ r c, GetR s u r c ∧ e = .returned (.tuple #[.string (txt r), .int .i64 c])) ∧ K0 w w' := by
  have hown : (w.alloc (.cells #[.string (txt u)] 9)).ownsRow 0 9 1 (.slice (some ⟨w.heap.size, 0, none⟩) 1 1) [u].length (strs_ [u]) := by
    have := World.ownsRow_lit (base := 0) (e := 9) (size := 1) w #[.string (txt u)] 1 (Nat.zero_le _) (by unfold maxLen; omega) rfl
    simpa [strs_] using this
  have hk0 : K0 w (w.alloc (.cells #[.string (txt u)] 9)) := Kp.alloc _ _ _
  have HC := hide (compiled_said s hm (fun j hj => hk0.cellz (hTab j hj)) (fun t h => h.ne) hown (by simp) (fun x hx => by rw [List.mem_singleton] at hx; rw [hx]; exact hu))
  clear hown hTab
  go_enter Tryz.func15, Tryz.ntmps15
  go_wp2_with fail
  refine (unhide HC).mono ?_
  rintro e w1 ⟨hk1, (⟨c, hB, rfl⟩ | ⟨t, hG, (⟨⟨x, hx, h60⟩, rfl⟩ | ⟨hall, b, hCL, rfl⟩)⟩)⟩
  · have q3 : (c != 0) = true := by rw [bne_iff_ne]; have := hB.nz; omega
    have H1 := hide (And.intro hB (hk0.trans hk1))
    clear hB hk1 hk0
    go_wp2
    go_ret2
    exact ⟨⟨[], c, .inl ⟨(unhide H1).1, rfl⟩, rfl⟩, (unhide H1).2⟩
  · rw [List.mem_singleton] at hx
    subst hx
    have H1 := hide (And.intro hG (And.intro h60 (hk0.trans hk1)))
    clear hG h60 hk1 hk0
    go_wp2
    go_ret2
    exact ⟨⟨[], 1, .inr ⟨t, (unhide H1).1, .inl ⟨(unhide H1).2.1, rfl, rfl⟩⟩, rfl⟩, (unhide H1).2.2⟩
  · have h60 : u.length ≤ 60 := hall u List.mem_cons_self
    have HL := hide (lget_said hCL hG.ne hG.bz (by omega : u.length ≤ 1000))
    have H1 := hide (And.intro hG (And.intro h60 (hk0.trans hk1)))
    clear hG hall hCL hk1 hk0
    go_wp2_with fail
    refine (unhide HL).mono ?_
    rintro e w2 ⟨⟨r, m, hrm, rfl⟩, hk2⟩
    have hm3 : m = 0 ∨ m = 1 ∨ m = 2 := by rcases hrm with ⟨_, _, h⟩ | ⟨_, _, h⟩ <;> omega
    have H2 := hide (And.intro hrm hk2)
    have HR := hide (refusal_said m hm3 w2)
    obtain ⟨cc, hcc⟩ : ∃ cc : Int, (if m = 0 then 0 else m + 4) = cc := ⟨_, rfl⟩
    rw [hcc] at HR
    have HCC := hide hcc
    clear hcc
    clear hrm hk2 hm3
    go_wp2_with fail
    refine (unhide HR).mono ?_
    rintro e w3 ⟨rfl, rfl⟩
    go_wp2
    go_ret2
    obtain ⟨hG, h60, hk1⟩ := unhide H1
    obtain ⟨hrm, hk2⟩ := unhide H2
    refine ⟨⟨r, cc, .inr ⟨t, hG, .inr ?_⟩, rfl⟩, hk1.trans hk2⟩
    rcases hrm with ⟨h1, h2, h3⟩ | ⟨h1, h2, h3⟩
    · exact .inl ⟨h60, h1, h2, by rw [← unhide HCC, if_pos h3]⟩
    · exact .inr ⟨h60, h1, h2, by rw [← unhide HCC, h3]; rfl⟩

set_option maxRecDepth 100000 in
set_option maxHeartbeats 3200000 in
theorem make_call (s : ByteArray) (u : List UInt8) (w : World) (hm : s.size ≤ maxLen) (hu : u.length ≤ maxLen) (hTab : Tab w) :
    Calls Tryz.prog 22 #[.string s, .string (txt u)] w fun e w' => (∃ r c, MakeR s u r c ∧ e = .returned (.tuple #[.string (txt r), .int .i64 c])) ∧ K0 w w' := by
  have hown : (w.alloc (.cells #[.string (txt u)] 9)).ownsRow 0 9 1 (.slice (some ⟨w.heap.size, 0, none⟩) 1 1) [u].length (strs_ [u]) := by
    have := World.ownsRow_lit (base := 0) (e := 9) (size := 1) w #[.string (txt u)] 1 (Nat.zero_le _) (by unfold maxLen; omega) rfl
    simpa [strs_] using this
  have hk0 : K0 w (w.alloc (.cells #[.string (txt u)] 9)) := Kp.alloc _ _ _
  have HC := hide (compiled_said s hm (fun j hj => hk0.cellz (hTab j hj)) (fun t h => h.ne) hown (by simp) (fun x hx => by rw [List.mem_singleton] at hx; rw [hx]; exact hu))
  clear hown hTab
  go_enter Tryz.func22, Tryz.ntmps22
  go_wp2_with fail
  refine (unhide HC).mono ?_
  rintro e w1 ⟨hk1, (⟨c, hB, rfl⟩ | ⟨t, hG, (⟨⟨x, hx, h60⟩, rfl⟩ | ⟨hall, b, hCL, rfl⟩)⟩)⟩
  · have q3 : (c != 0) = true := by rw [bne_iff_ne]; have := hB.nz; omega
    have H1 := hide (And.intro hB (hk0.trans hk1))
    clear hB hk1 hk0
    go_wp2
    go_ret2
    exact ⟨⟨[], c, .inl ⟨(unhide H1).1, rfl⟩, rfl⟩, (unhide H1).2⟩
  · rw [List.mem_singleton] at hx
    subst hx
    have H1 := hide (And.intro hG (And.intro h60 (hk0.trans hk1)))
    clear hG h60 hk1 hk0
    go_wp2
    go_ret2
    exact ⟨⟨[], 1, .inr ⟨t, (unhide H1).1, .inl ⟨(unhide H1).2.1, rfl, rfl⟩⟩, rfl⟩, (unhide H1).2.2⟩
  · have h60 : u.length ≤ 60 := hall u List.mem_cons_self
    have HL := hide (lmake_said hCL hG.ne hG.bz (by omega : u.length ≤ 1000))
    have H1 := hide (And.intro hG (And.intro h60 (hk0.trans hk1)))
    clear hG hall hCL hk1 hk0
    go_wp2_with fail
    refine (unhide HL).mono ?_
    rintro e w2 ⟨⟨r, m, hrm, rfl⟩, hk2⟩
    have hm3 : m = 0 ∨ m = 1 ∨ m = 2 := by rcases hrm with ⟨_, _, h⟩ | ⟨_, _, h⟩ <;> omega
    have H2 := hide (And.intro hrm hk2)
    have HR := hide (refusal_said m hm3 w2)
    obtain ⟨cc, hcc⟩ : ∃ cc : Int, (if m = 0 then 0 else m + 4) = cc := ⟨_, rfl⟩
    rw [hcc] at HR
    have HCC := hide hcc
    clear hcc
    clear hrm hk2 hm3
    go_wp2_with fail
    refine (unhide HR).mono ?_
    rintro e w3 ⟨rfl, rfl⟩
    go_wp2
    go_ret2
    obtain ⟨hG, h60, hk1⟩ := unhide H1
    obtain ⟨hrm, hk2⟩ := unhide H2
    refine ⟨⟨r, cc, .inr ⟨t, hG, .inr ?_⟩, rfl⟩, hk1.trans hk2⟩
    rcases hrm with ⟨h1, h2, h3⟩ | ⟨h1, h2, h3⟩
    · exact .inl ⟨h60, h1, h2, by rw [← unhide HCC, if_pos h3]⟩
    · exact .inr ⟨h60, h1, h2, by rw [← unhide HCC, h3]; rfl⟩

set_option maxRecDepth 100000 in
set_option maxHeartbeats 3200000 in
theorem put_call (s : ByteArray) (v u : List UInt8) (w : World) (hm : s.size ≤ maxLen) (hv : v.length ≤ maxLen) (hu : u.length ≤ maxLen) (hTab : Tab w) :
    Calls Tryz.prog 19 #[.string s, .string (txt v), .string (txt u)] w fun e w' => (∃ r c, PutR s v u r c ∧ e = .returned (.tuple #[.string (txt r), .int .i64 c])) ∧ K0 w w' := by
  have hown : (w.alloc (.cells #[.string (txt v), .string (txt u)] 9)).ownsRow 0 9 1 (.slice (some ⟨w.heap.size, 0, none⟩) 2 2) [v, u].length (strs_ [v, u]) := by
    have := World.ownsRow_lit (base := 0) (e := 9) (size := 1) w #[.string (txt v), .string (txt u)] 2 (Nat.zero_le _) (by unfold maxLen; omega) rfl
    simpa [strs_] using this
  have hk0 : K0 w (w.alloc (.cells #[.string (txt v), .string (txt u)] 9)) := Kp.alloc _ _ _
  have HC := hide (compiled_said s hm (fun j hj => hk0.cellz (hTab j hj)) (fun t h => h.ne) hown (by simp) (fun x hx => by
    rcases List.mem_cons.1 hx with rfl | hx
    · exact hv
    · rw [List.mem_singleton] at hx; rw [hx]; exact hu))
  clear hown hTab
  go_enter Tryz.func19, Tryz.ntmps19
  go_wp2_with fail
  refine (unhide HC).mono ?_
  rintro e w1 ⟨hk1, (⟨c, hB, rfl⟩ | ⟨t, hG, (⟨⟨x, hx, h60⟩, rfl⟩ | ⟨hall, b, hCL, rfl⟩)⟩)⟩
  · have q3 : (c != 0) = true := by rw [bne_iff_ne]; have := hB.nz; omega
    have H1 := hide (And.intro hB (hk0.trans hk1))
    clear hB hk1 hk0
    go_wp2
    go_ret2
    exact ⟨⟨[], c, .inl ⟨(unhide H1).1, rfl⟩, rfl⟩, (unhide H1).2⟩
  · have h9 : 60 < v.length ∨ 60 < u.length := by
      rcases List.mem_cons.1 hx with rfl | hx
      · exact .inl h60
      · rw [List.mem_singleton] at hx; rw [← hx]; exact .inr h60
    have H1 := hide (And.intro hG (And.intro h9 (hk0.trans hk1)))
    clear hG h60 hk1 hk0 hx h9
    go_wp2
    go_ret2
    exact ⟨⟨[], 1, .inr ⟨t, (unhide H1).1, .inl ⟨(unhide H1).2.1, rfl, rfl⟩⟩, rfl⟩, (unhide H1).2.2⟩
  · have h60 : v.length ≤ 60 := hall v List.mem_cons_self
    have h61 : u.length ≤ 60 := hall u (List.mem_cons_of_mem _ List.mem_cons_self)
    have HL := hide (lput_said hCL hG.ne hG.bz (by omega : v.length ≤ 1000) (by omega : u.length ≤ 1000))
    have H1 := hide (And.intro hG (And.intro h60 (And.intro h61 (hk0.trans hk1))))
    clear hG hall hCL hk1 hk0
    go_wp2_with fail
    refine (unhide HL).mono ?_
    rintro e w2 ⟨⟨r, m, hrm, rfl⟩, hk2⟩
    have hm3 : m = 0 ∨ m = 1 ∨ m = 2 := by rcases hrm with ⟨_, _, _, h⟩ | ⟨_, _, h⟩ | ⟨_, _, _, h⟩ <;> omega
    have H2 := hide (And.intro hrm hk2)
    have HR := hide (refusal_said m hm3 w2)
    obtain ⟨cc, hcc⟩ : ∃ cc : Int, (if m = 0 then 0 else m + 4) = cc := ⟨_, rfl⟩
    rw [hcc] at HR
    have HCC := hide hcc
    clear hcc
    clear hrm hk2 hm3
    go_wp2_with fail
    refine (unhide HR).mono ?_
    rintro e w3 ⟨rfl, rfl⟩
    go_wp2
    go_ret2
    obtain ⟨hG, h60, h61, hk1⟩ := unhide H1
    obtain ⟨hrm, hk2⟩ := unhide H2
    refine ⟨⟨r, cc, .inr ⟨t, hG, .inr ⟨h60, h61, ?_⟩⟩, rfl⟩, hk1.trans hk2⟩
    rcases hrm with ⟨h1, h2, h3, h4⟩ | ⟨h1, h2, h3⟩ | ⟨h1, h2, h3, h4⟩
    · exact .inl ⟨h1, h2, h3, by rw [← unhide HCC, if_pos h4]⟩
    · exact .inr (.inl ⟨h1, h2, by rw [← unhide HCC, h3]; rfl⟩)
    · exact .inr (.inr ⟨h1, h2, h3, by rw [← unhide HCC, h4]; rfl⟩)

end Go.Proofs.YtlljggefbngkeaaGreatDoor

namespace Go.Proofs.YtlljggefbngkeaaGreatDoor
open Go.RowKit Go.Shelf

theorem Tab.k0 {w w' : World} (h : Tab w) (hk : K0 w w') : Tab w' := fun j hj => hk.cellz (h j hj)
theorem txt_e : txt [] = (⟨#[]⟩ : ByteArray) := rfl
theorem txt_back (d : ByteArray) : txt d.data.toList = d := by simp [txt]
theorem txt_back_size (d : ByteArray) : d.data.toList.length = d.size := size_toList d






end Go.Proofs.YtlljggefbngkeaaGreatDoor
