import Derived.Test.YtlljggefbngkeaaGreatDoorU27
import Derived.Test.YtlljggefbngkeaaGreatDoorU19
import Derived.Deep.RegionHeld3
namespace Go.Proofs.YtlljggefbngkeaaGreatDoor
open Go.RowKit

theorem mAlt_snoc : ∀ (l : List PT) (t : PT) (S : List MSt) (to : Nat), mAlt (l ++ [t]) S to = ((mLay t (mAlt l S to).1 to).1, (mAlt l S to).2 ++ [(mLay t (mAlt l S to).1 to).2])
  | [], t, S, to => by rw [List.nil_append, mAlt, mAlt, mAlt]; simp
  | u :: l, t, S, to => by rw [List.cons_append, mAlt, mAlt_snoc l t, mAlt]; simp

theorem TRL.at {w : World} {Y : Nat → Prop} : ∀ {l : List PT} {gs : List Nat}, TRL w Y l gs → ∀ k, k < l.length → ∃ t g, l[k]? = some t ∧ gs[k]? = some g ∧ TR w Y t g
  | [], [], _, k, hk => absurd hk (Nat.not_lt_zero _)
  | t :: l, g :: gs, h, 0, _ => by rw [TRL] at h; exact ⟨t, g, rfl, rfl, h.1⟩
  | t :: l, g :: gs, h, k + 1, hk => by
    rw [TRL] at h
    obtain ⟨t', g', h1, h2, h3⟩ := TRL.at h.2 k (by simpa using hk)
    exact ⟨t', g', by simpa using h1, by simpa using h2, h3⟩
  | [], k :: ks, h, _, _ => by simp [TRL] at h
  | t :: l, [], h, _, _ => by simp [TRL] at h

theorem stSizeL_take : ∀ (l : List PT) (k : Nat), stSizeL (l.take k) ≤ stSizeL l
  | [], k => by simp
  | t :: l, 0 => by rw [List.take_zero, stSizeL]; omega
  | t :: l, k + 1 => by rw [List.take_succ_cons, stSizeL, stSizeL]; have := stSizeL_take l k; omega
theorem stSizeL_snoc : ∀ (l : List PT) (t : PT), stSizeL (l ++ [t]) = stSizeL l + stSize t
  | [], t => by rw [List.nil_append, stSizeL_one, stSizeL]; omega
  | u :: l, t => by rw [List.cons_append, stSizeL, stSizeL, stSizeL_snoc l t]; omega

theorem stSizeL_drop : ∀ (l : List PT) (k : Nat), stSizeL (l.drop k) ≤ stSizeL l
  | [], k => by simp
  | t :: l, 0 => by simp
  | t :: l, k + 1 => by rw [List.drop_succ_cons, stSizeL]; have := stSizeL_drop l k; omega

theorem own_max' {w : World} {base : Nat} {e : TypeId} {size : Nat} {v : Value} {n : Nat} {xs : List Value} (h : w.ownsRow base e size v n xs) : n ≤ 9223372036854775807 := own_max h

/-- the machine stands apart from what is new -/
theorem MH.far {w : World} {Y : Nat → Prop} {b : Nat} {S : List MSt} {st en : Nat} (h : MH w Y b S st en) : MH w (fun k => Y k ∨ w.heap.size ≤ k) b S st en := h.reY (fun k hk hz => hz.elim id (fun h => by omega))

/-- what lay keeps of its own: two boxes, and a row that is being made -/
def YL (Y : Nat → Prop) (w : World) (v : Value) (k : Nat) : Prop := Y k ∨ k = w.heap.size ∨ k = w.heap.size + 1 ∨ v.ownBlock = some k

def AltRel (w : World) (Y : Nat → Prop) (b : Nat) (S : List MSt) (to st en : Nat) (l : List PT) (gk : Nat) (fv iv : Value) (wv : World) : Prop :=
  ∃ k : Nat, iv = .int .i64 (k : Int) ∧ k ≤ l.length ∧ l.length - k < gk ∧ MH wv (YL Y w fv) b (mAlt (l.take k) S to).1 st en ∧ wv.ownsRow 0 3 1 fv k (nums (mAlt (l.take k) S to).2) ∧
    (∀ j, fv.ownBlock = some j → w.heap.size + 2 ≤ j) ∧ Kp Y w wv ∧ wv.heap[w.heap.size]? = some (.cells #[.pointer (some ⟨b, 0, none⟩)] 120 (0, 0)) ∧ wv.heap[w.heap.size + 1]? = some (.cells #[.int .i64 (to : Int)] 3 (0, 0))

set_option maxRecDepth 100000 in
set_option maxHeartbeats 3200000 in
theorem mlay_alt {w0 : World} {b : Nat} (l : List PT) (ih : ∀ t, t ∈ l → LaySaid w0 b t) : LaySaid w0 b (.alt l) := by
  intro w Y S to st en p hT hY0 hB hY hM hlen
  obtain ⟨i2, hi2, hy0, hy1, hy2⟩ := info_parts Tryz.infoInt
  rw [TR] at hT
  obtain ⟨_, v, gs, hp, hv, hTL⟩ := hT
  rw [stSize] at hlen
  have hgs := hTL.len
  have hmx := own_max hv.1
  obtain ⟨ao, cp, rfl⟩ := own_slice hv.1
  have hp1 := below_cell hB hp
  have hpl := heap_lt hp1
  have k0 : ∀ o o', ((w.alloc o).alloc o').cell? ⟨p, 0, none⟩ = some (.int .i64 2) := fun o o' => by rw [World.cell?_alloc_past _ _ _ (by simp; omega), World.cell?_alloc_past _ _ _ hpl, cellOf hp1 0]; rfl
  have k2 : ∀ o o', ((w.alloc o).alloc o').cell? ⟨p, 2, none⟩ = some (.slice ao gs.length cp) := fun o o' => by rw [World.cell?_alloc_past _ _ _ (by simp; omega), World.cell?_alloc_past _ _ _ hpl, cellOf hp1 2]; rfl
  have H0 : Hid (AltRel w Y b S to st en l (l.length + 1) (.slice none 0 0) (.int .i64 0) ((w.alloc (.cells #[.pointer (some ⟨b, 0, none⟩)] 120)).alloc (.cells #[.int .i64 (to : Int)] 3))) := by
    refine ⟨0, rfl, Nat.zero_le _, by omega, ?_, by rw [List.take_zero, mAlt]; exact World.ownsRow_nil _ _ _ _, (by intro j hj; cases hj), (Kp.alloc Y w _).trans (Kp.alloc Y _ _), heap_alloc_old _ (heap_alloc_new w _), alloc2_at w _ _⟩
    rw [List.take_zero, mAlt]
    refine MH.reY ((hM.far.alloc _).alloc _) (fun k _ hz => ?_)
    rcases hz with hz | hz | hz | hz
    · exact .inl hz
    · exact .inr (by omega)
    · exact .inr (by omega)
    · cases hz
  have HT := hide (And.intro hv (And.intro hTL (And.intro ih (And.intro hB (And.intro hY0 hgs)))))
  clear hp hp1 hM hB hv hTL ih hgs
  rw [mLay]
  go_enter Tryz.func141, Tryz.ntmps141
  go_wp2_with fail
  go_loopg [9, 49] (l.length + 1) (fun gk fv iv wv => AltRel w Y b S to st en l gk fv iv wv)
  case atStart => exact unhide H0
  case round =>
    clear H0
    obtain ⟨k, rfl, hk, hgk, hMk, hfv, hfn, hKk, hb1, hb2⟩ := hrel
    obtain ⟨aj, cj, rfl⟩ := own_slice hfv
    have hsz := mAlt_len (l.take k) S to
    have hst := stSizeL_take l k
    have e1 : wr.cell? ⟨w.heap.size, 0, none⟩ = some (.pointer (some ⟨b, 0, none⟩)) := by rw [cellOf hb1 0]; rfl
    have e2 : wr.cell? ⟨w.heap.size + 1, 0, none⟩ = some (.int .i64 (to : Int)) := by rw [cellOf hb2 0]; rfl
    have hKs := hKk.size
    have HI := hide (And.intro hMk (And.intro hfv (And.intro hfn (And.intro hKk (And.intro hb1 hb2)))))
    clear hMk hfv hKk hb1 hb2
    by_cases hlt : k < l.length
    · obtain ⟨hv, hTL, ih, hB, hY0, hgs⟩ := unhide HT
      have hd : (k : Int) < (gs.length : Int) := by omega
      have hkg : k < gs.length := by omega
      obtain ⟨vb, cap, hveq, _, hvl⟩ := hv.1.form (by omega)
      injection hveq with hao _ hcp
      subst hao
      subst hcp
      obtain ⟨t, gt, ht1, ht2, ht3⟩ := TRL.at hTL k hlt
      have hBr : Below w0.heap.size w0 wr := by
        have hKk := (unhide HI).2.2.2.1
        exact ⟨hKk.os.trans hB.os, hKk.tape.trans hB.tape, hKk.output.trans hB.output, Nat.le_trans hB.size hKk.size, fun j hj => (hKk.block j (Nat.lt_of_lt_of_le hj hB.size) (hY0 j hj)).trans (hB.block j hj)⟩
      have ck : wr.cell? ⟨vb, k, none⟩ = some (.pointer (some ⟨gt, 0, none⟩)) := by
        have h1 := hv.1.cellAt k (by omega)
        rw [World.cell?_of_block (w := w0) (w' := wr) (a := ⟨vb, k, none⟩) (hBr.block vb hvl), h1]
        simp [ptrs, ht2]
      have htake : l.take (k + 1) = l.take k ++ [t] := by rw [List.take_add_one, ht1]; rfl
      have hst1 := stSizeL_take l (k + 1)
      rw [htake, stSizeL_snoc] at hst1
      have hYlt : ∀ j, YL Y w (.slice aj k cj) j → j < wr.heap.size := by
        intro j hj
        rcases hj with hj | hj | hj | hj
        · have := hY j hj; omega
        · have := heap_lt (unhide HI).2.2.2.2.1; omega
        · have := heap_lt (unhide HI).2.2.2.2.2; omega
        · exact own_lt (unhide HI).2.1 j hj
      have HC := hide (ih t (List.mem_of_getElem? ht1) wr (YL Y w (.slice aj k cj)) (mAlt (l.take k) S to).1 to st en gt ht3 (fun j hj => .inl (hY0 j hj)) hBr hYlt (unhide HI).1 (by omega))
      have Ht := hide (And.intro htake (And.intro hgs hYlt))
      clear hv hTL ih hB hY0 ht1 ht2 ht3 htake hBr hgs hYlt
      go_wp2_with fail
      refine (unhide HC).mono ?_
      rintro e w3 ⟨rfl, hM3, hK3⟩
      have hown3 : w3.ownsRow 0 3 1 (.slice aj k cj) k (nums (mAlt (l.take k) S to).2) := own_same (unhide HI).2.1 (fun j e => hK3.block j (own_lt (unhide HI).2.1 j e) (.inr (.inr (.inr e))))
      have H3 := hide (And.intro hM3 hK3)
      have hlen3 : k ≤ 50000 := by have := stSizeL_len l; omega
      clear hM3 hK3 HC
      go_wp2_with (at_builtin; refine wpList_append_lies _ rfl (.tmp 53) (.tmp 58) 80 rfl 0 3 i2 _ 1 8 Tryz.underlying80 hi2 hy0 hy1 hy2 rfl (by decide) (.slice aj k cj) k (nums (mAlt (l.take k) S to).2) rfl (hown3.alloc _) ⟨w3.heap.size, 0, none⟩ 1 1 [.int .i64 ((mLay t (mAlt (l.take k) S to).1 to).2 : Int)] rfl rfl (World.news_of_block (cs := #[.int .i64 ((mLay t (mAlt (l.take k) S to).1 to).2 : Int)]) (heap_alloc_new w3 _)) (by simp [Value.oneCell']) (by omega) (by unfold maxLen; omega) (by omega) (by omega) (w3.heap.size + 1) (by simp) ?_)
      intro g5 cap5 w5 hown5 hgrow5 hat5 hlt5
      go_wp2_with fail
      go_roundg (l.length - k)
      case measure => exact hgk
      case rel =>
        obtain ⟨hMk, hfv, hfn, hKk, hb1, hb2⟩ := unhide HI
        obtain ⟨hM3, hK3⟩ := unhide H3
        obtain ⟨htake, hgs, hYlt⟩ := unhide Ht
        have hob : ∀ j, (Value.slice (some ⟨g5, 0, none⟩) (k + 1) cap5).ownBlock = some j ↔ g5 = j := fun j => by simp [Value.ownBlock]
        have ha3 : ∀ o : Obj, (w3.alloc o).heap.size = w3.heap.size + 1 := fun o => by simp
        have hK3s := hK3.size
        have old : ∀ j, j < w3.heap.size → (Value.slice aj k cj).ownBlock ≠ some j → w5.heap[j]? = w3.heap[j]? := fun j hj hne => by
          rw [hgrow5.block j (by rw [ha3]; omega) (Ne.symm hne)]
          exact Below.heap_alloc _ _ _ hj
        have hnew : g5 = w3.heap.size + 1 ∨ w.heap.size + 2 ≤ g5 ∧ YL Y w (.slice aj k cj) g5 := by
          rcases hat5 with h | h
          · exact .inr ⟨hfn g5 h, .inr (.inr (.inr h))⟩
          · exact .inl h
        have hfs : ∀ j, YL Y w (.slice aj k cj) j → j < w3.heap.size := fun j hj => Nat.lt_of_lt_of_le (hYlt j hj) hK3s
        have hb13 := (hK3.block _ (heap_lt hb1) (.inr (.inl rfl))).trans hb1
        have hb23 := (hK3.block _ (heap_lt hb2) (.inr (.inr (.inl rfl)))).trans hb2
        have hnb : ∀ j, j < w.heap.size + 2 → (Value.slice aj k cj).ownBlock ≠ some j := fun j hj e => by have := hfn j e; omega
        refine ⟨k + 1, by simp, by omega, by omega, ?_, ?_, ?_, ?_, (old _ (heap_lt hb13) (hnb _ (by omega))).trans hb13, (old _ (heap_lt hb23) (hnb _ (by omega))).trans hb23⟩
        · rw [htake, mAlt_snoc]
          have h1 : MH w5 (fun j => YL Y w (.slice aj k cj) j ∨ w3.heap.size ≤ j) b (mLay t (mAlt (l.take k) S to).1 to).1 st en :=
            MH.kept hM3.far (fun j hj hz => old j hj (fun e => hz (.inl (.inr (.inr (.inr e))))))
          refine MH.reY h1 (fun j _ hz => ?_)
          rcases hz with hz | hz | hz | hz
          · exact .inl (.inl hz)
          · exact .inl (.inr (.inl hz))
          · exact .inl (.inr (.inr (.inl hz)))
          · have := (hob j).1 hz
            subst this
            rcases hnew with h | h
            · exact .inr (by omega)
            · exact .inl h.2
        · rw [htake, mAlt_snoc]
          simpa [nums] using hown5
        · intro j hj
          have := (hob j).1 hj
          subst this
          rcases hnew with h | h
          · have := heap_lt hb23; omega
          · exact h.1
        · refine ((hKk.trans (Kp.mono hK3 (fun j _ hj => .inl hj))).trans (Kp.alloc Y w3 _)).trans (Kp.of_grown hgrow5 (fun j e hy => ?_))
          have := hfn j e
          have := hY j hy
          omega
    · have hd : decide ((k : Int) < (gs.length : Int)) = false := by have := (unhide HT).2.2.2.2.2; simp; omega
      have hd2 : ¬ (k : Int) < (gs.length : Int) := by have := (unhide HT).2.2.2.2.2; omega
      have hke : l.take k = l := List.take_of_length_le (by omega)
      rw [hke] at HI
      obtain ⟨hMk, hfv, hfn, hKk, hb1, hb2⟩ := unhide HI
      have hlen2 : (mAlt l S to).2.length = k := by have := hfv.1; simp [nums] at this; exact this
      have hML := mAlt_len l S to
      have hYs : ∀ j, Y j → j < wr.heap.size := fun j hj => by have := hY j hj; omega
      have HA := hide (MAdd ⟨[], 0, (mAlt l S to).2⟩ 0 (.slice aj k cj) setRep_nil (hMk.reY (fun j _ hj => .inl hj)) (by omega) (by rw [hlen2]; exact hfv) (fun j hj hy => by have := hfn j hj; have := hY j hy; omega) hYs)
      have HK := hide hKk
      clear hMk hfv hKk hb1 hb2 HI hlen2
      go_wp2_with fail
      refine (unhide HA).mono ?_
      rintro e w3 ⟨rfl, hM3, hK3⟩
      go_wp2
      go_ret
      exact ⟨rfl, hM3, (unhide HK).trans hK3⟩

end Go.Proofs.YtlljggefbngkeaaGreatDoor

namespace Go.Proofs.YtlljggefbngkeaaGreatDoor
open Go.RowKit

set_option maxRecDepth 100000 in
set_option maxHeartbeats 3200000 in
theorem mlay_maybe {w0 : World} {b : Nat} (t : PT) (ih : LaySaid w0 b t) : LaySaid w0 b (.rep 63 t) := by
  intro w Y S to st en p hT hY0 hB hY hM hlen
  rw [TR] at hT
  obtain ⟨_, v, gt, hp, hv, hTt⟩ := hT
  rw [stSize] at hlen
  obtain ⟨vb, cap, rfl, _, hvl⟩ := hv.1.form (by simp)
  have cv := hv.1.cellAt 0 (by simp)
  simp [ptrs] at cv
  have hp1 := below_cell hB hp
  have hpl := heap_lt hp1
  have hvl1 : vb < w.heap.size := Nat.lt_of_lt_of_le hvl hB.size
  have cv1 : w.cell? ⟨vb, 0, none⟩ = some (.pointer (some ⟨gt, 0, none⟩)) := by rw [World.cell?_of_block (w := w0) (w' := w) (a := ⟨vb, 0, none⟩) (hB.block vb hvl)]; exact cv
  have k0 : ∀ o o', ((w.alloc o).alloc o').cell? ⟨p, 0, none⟩ = some (.int .i64 5) := fun o o' => by rw [World.cell?_alloc_past _ _ _ (by simp; omega), World.cell?_alloc_past _ _ _ hpl, cellOf hp1 0]; rfl
  have k2 : ∀ o o', ((w.alloc o).alloc o').cell? ⟨p, 2, none⟩ = some (.slice (some ⟨vb, 0, none⟩) 1 cap) := fun o o' => by rw [World.cell?_alloc_past _ _ _ (by simp; omega), World.cell?_alloc_past _ _ _ hpl, cellOf hp1 2]; rfl
  have k3 : ∀ o o', ((w.alloc o).alloc o').cell? ⟨vb, 0, none⟩ = some (.pointer (some ⟨gt, 0, none⟩)) := fun o o' => by rw [World.cell?_alloc_past _ _ _ (by simp; omega), World.cell?_alloc_past _ _ _ hvl1]; exact cv1
  have hpY : Y p := hY0 p (heap_lt hp)
  have hvY : Y vb := hY0 vb hvl
  have hb1 : ((w.alloc (.cells #[.pointer (some ⟨b, 0, none⟩)] 120)).alloc (.cells #[.int .i64 (to : Int)] 3)).heap[w.heap.size]? = some (.cells #[.pointer (some ⟨b, 0, none⟩)] 120 (0, 0)) := heap_alloc_old _ (heap_alloc_new w _)
  have hb2 : ((w.alloc (.cells #[.pointer (some ⟨b, 0, none⟩)] 120)).alloc (.cells #[.int .i64 (to : Int)] 3)).heap[w.heap.size + 1]? = some (.cells #[.int .i64 (to : Int)] 3 (0, 0)) := alloc2_at w _ _
  have hM1 : MH ((w.alloc (.cells #[.pointer (some ⟨b, 0, none⟩)] 120)).alloc (.cells #[.int .i64 (to : Int)] 3)).drew (YL Y w (.slice none 0 0)) b S st en := by
    refine MH.reY ((hM.far.alloc _).alloc _).drew (fun k _ hz => ?_)
    rcases hz with hz | hz | hz | hz
    · exact .inl hz
    · exact .inr (by omega)
    · exact .inr (by omega)
    · cases hz
  have hB1 : Below w0.heap.size w0 ((w.alloc (.cells #[.pointer (some ⟨b, 0, none⟩)] 120)).alloc (.cells #[.int .i64 (to : Int)] 3)).drew := hB.trans (((Below.refl _ w).alloc hB.size _).alloc (by have := hB.size; simp; omega) _).drew
  have hYlt : ∀ k, YL Y w (.slice none 0 0) k → k < ((w.alloc (.cells #[.pointer (some ⟨b, 0, none⟩)] 120)).alloc (.cells #[.int .i64 (to : Int)] 3)).drew.heap.size := by
    intro k hk
    rcases hk with hk | hk | hk | hk
    · have := hY k hk; simp; omega
    · simp; omega
    · simp; omega
    · cases hk
  have HC := hide (ih _ (YL Y w (.slice none 0 0)) S to st en gt hTt (fun j hj => .inl (hY0 j hj)) hB1 hYlt hM1 (by omega))
  have HB := hide (And.intro hb1 (And.intro hb2 hYlt))
  have hML := mLay_len t S to
  have HK0 : Hid (Kp Y w ((w.alloc (.cells #[.pointer (some ⟨b, 0, none⟩)] 120)).alloc (.cells #[.int .i64 (to : Int)] 3)).drew) := ((Kp.alloc Y w _).trans (Kp.alloc Y _ _)).trans (Kp.drew Y _)
  have Hc := hide (And.intro (k2 (.cells #[.pointer (some ⟨b, 0, none⟩)] 120) (.cells #[.int .i64 (to : Int)] 3)) (k3 (.cells #[.pointer (some ⟨b, 0, none⟩)] 120) (.cells #[.int .i64 (to : Int)] 3)))
  have HA := hide (fun (w3 : World) (hM3 : MH w3 (YL Y w (.slice none 0 0)) b (mLay t S to).1 st en) (hs3 : ∀ k, YL Y w (.slice none 0 0) k → k < w3.heap.size) =>
    MAdd ⟨[], 0, [to, (mLay t S to).2]⟩ 0 (.slice (some ⟨w3.heap.size, 0, none⟩) 2 2) setRep_nil (hM3.alloc (.cells #[.int .i64 (to : Int), .int .i64 ((mLay t S to).2 : Int)] 3)) (by omega) (World.ownsRow_lit (base := 0) (e := 3) (size := 1) w3 #[.int .i64 (to : Int), .int .i64 ((mLay t S to).2 : Int)] 2 (by omega) (by unfold maxLen; omega) rfl) (fun k hk hy => by simp [Value.ownBlock] at hk; have := hs3 k hy; omega) (fun k hk => by have := hs3 k hk; simp; omega))
  rw [mLay, if_neg (by decide)]
  clear hp hp1 hM hB hv hTt ih hb1 hb2 hM1 hB1 hYlt cv cv1
  go_enter Tryz.func141, Tryz.ntmps141
  go_wp2_with fail
  have s1 : ((w.alloc (.cells #[.pointer (some ⟨b, 0, none⟩)] 120)).alloc (.cells #[.int .i64 (to : Int)] 3)).cell? ⟨w.heap.size, 0, none⟩ = some (.pointer (some ⟨b, 0, none⟩)) := by rw [cellOf (unhide HB).1 0]; rfl
  have s2 : ((w.alloc (.cells #[.pointer (some ⟨b, 0, none⟩)] 120)).alloc (.cells #[.int .i64 (to : Int)] 3)).cell? ⟨w.heap.size + 1, 0, none⟩ = some (.int .i64 (to : Int)) := by rw [cellOf (unhide HB).2.1 0]; rfl
  have HS : Hid (∀ w3, Kp (YL Y w (.slice none 0 0)) ((w.alloc (.cells #[.pointer (some ⟨b, 0, none⟩)] 120)).alloc (.cells #[.int .i64 (to : Int)] 3)).drew w3 → w3.cell? ⟨w.heap.size, 0, none⟩ = some (.pointer (some ⟨b, 0, none⟩)) ∧ w3.cell? ⟨w.heap.size + 1, 0, none⟩ = some (.int .i64 (to : Int)) ∧ w3.cell? ⟨p, 2, none⟩ = some (.slice (some ⟨vb, 0, none⟩) 1 cap) ∧ w3.cell? ⟨vb, 0, none⟩ = some (.pointer (some ⟨gt, 0, none⟩))) := by
    intro w3 hK
    refine ⟨?_, ?_, ?_, ?_⟩
    · rw [World.cell?_of_block (a := ⟨w.heap.size, 0, none⟩) (hK.block w.heap.size (by simp; omega) (.inr (.inl rfl)))]; exact s1
    · rw [World.cell?_of_block (a := ⟨w.heap.size + 1, 0, none⟩) (hK.block (w.heap.size + 1) (by simp) (.inr (.inr (.inl rfl))))]; exact s2
    · rw [World.cell?_of_block (a := ⟨p, 2, none⟩) (hK.block p (by simp; omega) (.inl hpY))]; exact (unhide Hc).1
    · rw [World.cell?_of_block (a := ⟨vb, 0, none⟩) (hK.block vb (by simp; omega) (.inl hvY))]; exact (unhide Hc).2
  go_region_held3 (fun w' => w'.cell? ⟨w.heap.size, 0, none⟩ = some (.pointer (some ⟨b, 0, none⟩)) ∧ w'.cell? ⟨w.heap.size + 1, 0, none⟩ = some (.int .i64 (to : Int)) ∧ w'.cell? ⟨p, 2, none⟩ = some (.slice (some ⟨vb, 0, none⟩) 1 cap) ∧ w'.cell? ⟨vb, 0, none⟩ = some (.pointer (some ⟨gt, 0, none⟩))) (go_keep) (first
    | (go_at_call 141; refine (unhide HC).mono ?_; rintro e w3 ⟨rfl, hM3, hK3⟩; have hz3 : ∀ k, YL Y w (.slice none 0 0) k → k < w3.heap.size := (fun k hk => Nat.lt_of_lt_of_le ((unhide HB).2.2 k hk) hK3.size); obtain ⟨t1, t2, t3, t4⟩ := unhide HS w3 hK3; have a1 := (fun o => (World.cell?_alloc_past (w := w3) o (w.heap.size) 0 (hz3 _ (.inr (.inl rfl)))).trans t1); have a2 := (fun o => (World.cell?_alloc_past (w := w3) o (w.heap.size + 1) 0 (hz3 _ (.inr (.inr (.inl rfl))))).trans t2); have a3 := (fun o => (World.cell?_alloc_past (w := w3) o (p) 2 (hz3 _ (.inl hpY))).trans t3); have a4 := (fun o => (World.cell?_alloc_past (w := w3) o (vb) 0 (hz3 _ (.inl hvY))).trans t4); have HA3 := hide (unhide HA w3 hM3 hz3); have HK3 := hide hK3; clear hM3 hK3)
    | (go_at_call 140; refine (unhide HA3).mono ?_; rintro e w4 ⟨rfl, hM4, hK4⟩; obtain ⟨u1, u2, u3, u4⟩ := unhide HS w4 (((unhide HK3).trans (Kp.alloc _ w3 _)).trans hK4)))
  all_goals
    go_wp2
    go_ret
    exact ⟨rfl, hM4.reY (fun k _ hk => .inl hk), (unhide HK0).trans (Kp.mono (((unhide HK3).trans (Kp.alloc _ w3 _)).trans hK4) (fun k _ hk => .inl hk))⟩

end Go.Proofs.YtlljggefbngkeaaGreatDoor

namespace Go.Proofs.YtlljggefbngkeaaGreatDoor
open Go.RowKit

/-- a state's list is set: the machine stands, that state turned -/
theorem MH.setFree {w : World} {Y : Nat → Prop} {b : Nat} {S : List MSt} {st en : Nat} {g cap : Nat} {xs : List Value} (h : MO w Y b S st en (.slice (some ⟨g, 0, none⟩) S.length cap) xs) {j : Nat} {q : MSt} (hq : S[j]? = some q) (fs : List Nat) (v : Value)
    (hv : w.ownsRow 0 3 1 v fs.length (nums fs)) (hvy : ∀ k, v.ownBlock = some k → ¬ Y k) :
    MH (w.setCell ⟨g, 3 * j + 2, none⟩ v) Y b (S.set j ⟨q.set, q.nx, fs⟩) st en := by
  have hj : j < S.length := (List.getElem?_eq_some_iff.1 hq).1
  have hlen := h.own.1
  have hgb : g ≠ b := fun e => own_ne h.blk h.own (by decide) (by rw [← e]; rfl)
  have far : ∀ k, k ≠ g → (w.setCell ⟨g, 3 * j + 2, none⟩ v).heap[k]? = w.heap[k]? := fun k hk => Below.heap_setCell _ _ _ _ hk
  have hown := h.own.stored (3 * j + 2) v
  refine ⟨.slice (some ⟨g, 0, none⟩) S.length cap, xs.set (3 * j + 2) v, ?_⟩
  exact {
    blk := (far b (Ne.symm hgb)).trans h.blk
    own := by rw [List.length_set]; exact hown.1
    free := by
      intro i p hp
      by_cases hij : i = j
      · subst hij
        rw [List.getElem?_set_self hj] at hp
        cases hp
        obtain ⟨v0, ⟨n1, h6, h7⟩, h2, h3, h4, h5⟩ := h.free i q hq
        refine ⟨v, ⟨n1, h6, ?_⟩, ?_, ?_, own_same hv (fun k hk => far k (fun e => own_ty hv h.own (by decide) k hk (by rw [e]; rfl))), hvy⟩
        · rw [List.getElem?_set_ne (by omega)]; exact h7
        · rw [List.getElem?_set_ne (by omega)]; exact h2
        · rw [List.getElem?_set_self (by omega)]
      · rw [List.getElem?_set_ne (Ne.symm hij)] at hp
        obtain ⟨v0, ⟨n1, h6, h7⟩, h2, h3, h4, h5⟩ := h.free i p hp
        refine ⟨v0, ⟨n1, h6, ?_⟩, ?_, ?_, own_same h4 (fun k hk => far k (fun e => own_ty h4 h.own (by decide) k hk (by rw [e]; rfl))), h5⟩
        · rw [List.getElem?_set_ne (by omega)]; exact h7
        · rw [List.getElem?_set_ne (by omega)]; exact h2
        · rw [List.getElem?_set_ne (by omega)]; exact h3
    nb := h.nb
    np := h.np }

set_option maxRecDepth 100000 in
set_option maxHeartbeats 3200000 in
theorem mlay_many {w0 : World} {b : Nat} (c : Int) (hc : c = 42 ∨ c = 43) (t : PT) (ih : LaySaid w0 b t) : LaySaid w0 b (.rep c t) := by
  intro w Y S to st en p hT hY0 hB hY hM hlen
  rw [TR] at hT
  obtain ⟨_, v, gt, hp, hv, hTt⟩ := hT
  rw [stSize] at hlen
  obtain ⟨vb, cap, rfl, _, hvl⟩ := hv.1.form (by simp)
  have cv := hv.1.cellAt 0 (by simp)
  simp [ptrs] at cv
  have hp1 := below_cell hB hp
  have hpl := heap_lt hp1
  have hvl1 : vb < w.heap.size := Nat.lt_of_lt_of_le hvl hB.size
  have cv1 : w.cell? ⟨vb, 0, none⟩ = some (.pointer (some ⟨gt, 0, none⟩)) := by rw [World.cell?_of_block (w := w0) (w' := w) (a := ⟨vb, 0, none⟩) (hB.block vb hvl)]; exact cv
  have k0 : ∀ o o', ((w.alloc o).alloc o').cell? ⟨p, 0, none⟩ = some (.int .i64 (repKind c)) := fun o o' => by rw [World.cell?_alloc_past _ _ _ (by simp; omega), World.cell?_alloc_past _ _ _ hpl, cellOf hp1 0]; rfl
  have k2 : ∀ o o', ((w.alloc o).alloc o').cell? ⟨p, 2, none⟩ = some (.slice (some ⟨vb, 0, none⟩) 1 cap) := fun o o' => by rw [World.cell?_alloc_past _ _ _ (by simp; omega), World.cell?_alloc_past _ _ _ hpl, cellOf hp1 2]; rfl
  have k3 : ∀ o o', ((w.alloc o).alloc o').cell? ⟨vb, 0, none⟩ = some (.pointer (some ⟨gt, 0, none⟩)) := fun o o' => by rw [World.cell?_alloc_past _ _ _ (by simp; omega), World.cell?_alloc_past _ _ _ hvl1]; exact cv1
  have hpY : Y p := hY0 p (heap_lt hp)
  have hvY : Y vb := hY0 vb hvl
  have hb1 : ((w.alloc (.cells #[.pointer (some ⟨b, 0, none⟩)] 120)).alloc (.cells #[.int .i64 (to : Int)] 3)).heap[w.heap.size]? = some (.cells #[.pointer (some ⟨b, 0, none⟩)] 120 (0, 0)) := heap_alloc_old _ (heap_alloc_new w _)
  have hb2 : ((w.alloc (.cells #[.pointer (some ⟨b, 0, none⟩)] 120)).alloc (.cells #[.int .i64 (to : Int)] 3)).heap[w.heap.size + 1]? = some (.cells #[.int .i64 (to : Int)] 3 (0, 0)) := alloc2_at w _ _
  have hM1 : MH ((w.alloc (.cells #[.pointer (some ⟨b, 0, none⟩)] 120)).alloc (.cells #[.int .i64 (to : Int)] 3)) (YL Y w (.slice none 0 0)) b S st en := by
    refine MH.reY ((hM.far.alloc _).alloc _) (fun k _ hz => ?_)
    rcases hz with hz | hz | hz | hz
    · exact .inl hz
    · exact .inr (by omega)
    · exact .inr (by omega)
    · cases hz
  have hB1 : Below w0.heap.size w0 ((w.alloc (.cells #[.pointer (some ⟨b, 0, none⟩)] 120)).alloc (.cells #[.int .i64 (to : Int)] 3)) := hB.trans (((Below.refl _ w).alloc hB.size _).alloc (by have := hB.size; simp; omega) _)
  have hYlt : ∀ k, YL Y w (.slice none 0 0) k → k < ((w.alloc (.cells #[.pointer (some ⟨b, 0, none⟩)] 120)).alloc (.cells #[.int .i64 (to : Int)] 3)).heap.size := by
    intro k hk
    rcases hk with hk | hk | hk | hk
    · have := hY k hk; simp; omega
    · simp; omega
    · simp; omega
    · cases hk
  have HB := hide (And.intro hb1 (And.intro hb2 (And.intro hYlt (And.intro hB1 (And.intro ih (And.intro hTt hY0))))))
  have HA := hide (MAdd ⟨[], 0, []⟩ 0 (.slice none 0 0) setRep_nil hM1 (by omega) (World.ownsRow_nil _ _ _ _) (fun k hk => by cases hk) hYlt)
  have hML := mLay_len t (S ++ [⟨[], 0, []⟩]) S.length
  have hlen1 : (S ++ [(⟨[], 0, []⟩ : MSt)]).length = S.length + 1 := by simp
  have HK0 : Hid (Kp Y w ((w.alloc (.cells #[.pointer (some ⟨b, 0, none⟩)] 120)).alloc (.cells #[.int .i64 (to : Int)] 3))) := (Kp.alloc Y w _).trans (Kp.alloc Y _ _)
  have s1 : ((w.alloc (.cells #[.pointer (some ⟨b, 0, none⟩)] 120)).alloc (.cells #[.int .i64 (to : Int)] 3)).cell? ⟨w.heap.size, 0, none⟩ = some (.pointer (some ⟨b, 0, none⟩)) := by rw [cellOf hb1 0]; rfl
  have s2 : ((w.alloc (.cells #[.pointer (some ⟨b, 0, none⟩)] 120)).alloc (.cells #[.int .i64 (to : Int)] 3)).cell? ⟨w.heap.size + 1, 0, none⟩ = some (.int .i64 (to : Int)) := by rw [cellOf hb2 0]; rfl
  have HS : Hid (∀ w3, Kp (YL Y w (.slice none 0 0)) ((w.alloc (.cells #[.pointer (some ⟨b, 0, none⟩)] 120)).alloc (.cells #[.int .i64 (to : Int)] 3)) w3 → w3.cell? ⟨w.heap.size, 0, none⟩ = some (.pointer (some ⟨b, 0, none⟩)) ∧ w3.cell? ⟨w.heap.size + 1, 0, none⟩ = some (.int .i64 (to : Int)) ∧ w3.cell? ⟨p, 2, none⟩ = some (.slice (some ⟨vb, 0, none⟩) 1 cap) ∧ w3.cell? ⟨vb, 0, none⟩ = some (.pointer (some ⟨gt, 0, none⟩)) ∧ w3.cell? ⟨p, 0, none⟩ = some (.int .i64 (repKind c))) := by
    intro w3 hK
    refine ⟨?_, ?_, ?_, ?_, ?_⟩
    · rw [World.cell?_of_block (a := ⟨w.heap.size, 0, none⟩) (hK.block w.heap.size (by simp; omega) (.inr (.inl rfl)))]; exact s1
    · rw [World.cell?_of_block (a := ⟨w.heap.size + 1, 0, none⟩) (hK.block (w.heap.size + 1) (by simp) (.inr (.inr (.inl rfl))))]; exact s2
    · rw [World.cell?_of_block (a := ⟨p, 2, none⟩) (hK.block p (by simp; omega) (.inl hpY))]; exact k2 _ _
    · rw [World.cell?_of_block (a := ⟨vb, 0, none⟩) (hK.block vb (by simp; omega) (.inl hvY))]; exact k3 _ _
    · rw [World.cell?_of_block (a := ⟨p, 0, none⟩) (hK.block p (by simp; omega) (.inl hpY))]; exact k0 _ _
  have q0 : (repKind c == 0) = false ∧ (repKind c == 1) = false ∧ (repKind c == 2) = false ∧ (repKind c == 5) = false ∧ (repKind c == 4) = decide (c = 43) := by
    rcases hc with rfl | rfl <;> decide
  obtain ⟨q0, q1, q2, q5, q4⟩ := q0
  rw [mLay, if_pos hc]
  have Hq := hide q4
  have Hc43 := hide hc
  clear hp hp1 hM hB hv hTt ih hb1 hb2 hM1 hB1 hYlt cv cv1 hc q4
  generalize repKind c = kd at *
  go_enter Tryz.func141, Tryz.ntmps141
  go_wp2_with fail
  refine (unhide HA).mono ?_
  rintro e w2 ⟨rfl, hM2, hK2⟩
  obtain ⟨hb1, hb2, hYlt, hB1, ih, hTt, hY0⟩ := unhide HB
  obtain ⟨t1, t2, t3, t4, t5⟩ := unhide HS w2 hK2
  have hBel : ∀ w3, Kp (YL Y w (.slice none 0 0)) ((w.alloc (.cells #[.pointer (some ⟨b, 0, none⟩)] 120)).alloc (.cells #[.int .i64 (to : Int)] 3)) w3 → Below w0.heap.size w0 w3 := fun w3 hK => ⟨hK.os.trans hB1.os, hK.tape.trans hB1.tape, hK.output.trans hB1.output, Nat.le_trans hB1.size hK.size, fun k hk => (hK.block k (Nat.lt_of_lt_of_le hk hB1.size) (.inl (hY0 k hk))).trans (hB1.block k hk)⟩
  have HC := hide (ih w2.drew (YL Y w (.slice none 0 0)) (S ++ [⟨[], 0, []⟩]) S.length st en gt hTt (fun j hj => .inl (hY0 j hj)) (hBel w2 hK2).drew (fun k hk => Nat.lt_of_lt_of_le (hYlt k hk) hK2.size) hM2.drew (by omega))
  have HK2 := hide hK2
  have HYl := hide (And.intro hYlt hBel)
  clear hM2 hK2 hb1 hb2 hYlt hB1 ih hTt hY0 hBel HB HA s1 s2
  go_wp2_with fail
  go_region_held3 (fun w' => w'.cell? ⟨w.heap.size, 0, none⟩ = some (.pointer (some ⟨b, 0, none⟩)) ∧ w'.cell? ⟨p, 2, none⟩ = some (.slice (some ⟨vb, 0, none⟩) 1 cap) ∧ w'.cell? ⟨vb, 0, none⟩ = some (.pointer (some ⟨gt, 0, none⟩))) (go_keep) (first
    | (go_at_call 141; refine (unhide HC).mono ?_; rintro e w3 ⟨rfl, hM3, hK3⟩; obtain ⟨u1, u2, u3, u4, u5⟩ := unhide HS w3 (((unhide HK2).trans (Kp.drew _ w2)).trans hK3)))
  all_goals
    obtain ⟨pv, xs, hMO⟩ := hM3
    have hx := mLay_ext t (S ++ [⟨[], 0, []⟩]) S.length
    have hlt3 : S.length < (mLay t (S ++ [⟨[], 0, []⟩]) S.length).1.length := by have := hx.1; omega
    have hq3 : (mLay t (S ++ [⟨[], 0, []⟩]) S.length).1[S.length]? = some ⟨[], 0, []⟩ := by rw [hx.2 S.length (by omega)]; simp
    obtain ⟨g, cap3, rfl, _, hgl⟩ := hMO.own.form (by omega)
    have e0 : w3.cell? ⟨b, 0, none⟩ = some (.slice (some ⟨g, 0, none⟩) (mLay t (S ++ [⟨[], 0, []⟩]) S.length).1.length cap3) := by rw [cellOf hMO.blk 0]; rfl
    have hbl3 := heap_lt hMO.blk
    have hfz := hMO.own.frozenAt (3 * S.length + 2)
    have hgc : ∃ x, w3.cell? ⟨g, 3 * S.length + 2, none⟩ = some x := by
      have h1 := hMO.own.cellAt (3 * S.length + 2) (by omega)
      have h2 := hMO.own.1
      rw [h1]
      exact ⟨_, List.getElem?_eq_getElem (by omega)⟩
    obtain ⟨x0, hgc⟩ := hgc
    have hKall := ((unhide HK2).trans (Kp.drew _ w2)).trans hK3
    have hz3 : ∀ k, YL Y w (.slice none 0 0) k → k < w3.heap.size := fun k hk => Nat.lt_of_lt_of_le ((unhide HYl).1 k hk) hKall.size
    have hgY : ¬ YL Y w (.slice none 0 0) g := hMO.np g rfl
    have n1 : ¬ w.heap.size = g := fun e => hgY (.inr (.inl e.symm))
    have n2 : ¬ w.heap.size + 1 = g := fun e => hgY (.inr (.inr (.inl e.symm)))
    have n3 : ¬ b = g := fun e => own_ne hMO.blk hMO.own (by decide) (by rw [e]; rfl)
    have n4 : ¬ g = w3.heap.size := by omega
    have n5 : ¬ p = g := fun e => hgY (e ▸ .inl hpY)
    have n6 : ¬ w3.heap.size = g := by omega
    have a1 := fun o => (World.cell?_alloc_past (w := w3) o w.heap.size 0 (hz3 _ (.inr (.inl rfl)))).trans u1
    have a2 := fun o => (World.cell?_alloc_past (w := w3) o (w.heap.size + 1) 0 (hz3 _ (.inr (.inr (.inl rfl))))).trans u2
    have a3 := fun o => (World.cell?_alloc_past (w := w3) o b 0 hbl3).trans e0
    have a4 := fun o => (World.cell?_alloc_past (w := w3) o g (3 * S.length + 2) hgl).trans hgc
    have f4 := fun o => (World.frozen?_alloc_past (w := w3) o g (3 * S.length + 2) hgl).trans hfz
    have a5 := fun o => (World.cell?_alloc_past (w := w3) o p 0 (hz3 _ (.inl hpY))).trans u5
    rw [show 3 * S.length + 2 = S.length * 3 + 2 by omega] at a4 f4 hgc hfz
    have cs : ∀ (v : Value) (o : Obj) (k i : Nat) (y : Value), k < w3.heap.size → k ≠ g → w3.cell? ⟨k, i, none⟩ = some y → ((w3.setCell ⟨g, S.length * 3 + 2, none⟩ v).alloc o).cell? ⟨k, i, none⟩ = some y := fun v o k i y hk hne hy => by
      rw [World.cell?_alloc_past _ _ _ (by simpa [World.setCell] using hk), World.cell?_of_block (w := w3) (a := ⟨k, i, none⟩) (Below.heap_setCell w3 ⟨g, S.length * 3 + 2, none⟩ v k hne)]
      exact hy
    have c1 := fun v o => cs v o _ _ _ (hz3 _ (.inr (.inl rfl))) n1 u1
    have c2 := fun v o => cs v o _ _ _ (hz3 _ (.inr (.inr (.inl rfl)))) n2 u2
    have c3 := fun v o => cs v o _ _ _ hbl3 n3 e0
    have c5 := fun v o => cs v o _ _ _ (hz3 _ (.inl hpY)) n5 u5
    clear cs
    have hdi : (S.length : Int) < ((mLay t (S ++ [⟨[], 0, []⟩]) S.length).1.length : Int) := by omega
    have H3 := hide (And.intro hMO (And.intro hKall (And.intro hz3 (And.intro hq3 hgY))))
    clear hMO hKall hz3 hq3 hgY hK3 HC HS hx
    generalize hS3 : (mLay t (S ++ [⟨[], 0, []⟩]) S.length).1 = S3 at *
    generalize hf3 : (mLay t (S ++ [⟨[], 0, []⟩]) S.length).2 = f3 at *
    go_wp2_with fail
    go_region_held3 (fun w' => w'.cell? ⟨w.heap.size, 0, none⟩ = some (.pointer (some ⟨b, 0, none⟩)) ∧ w'.cell? ⟨w.heap.size + 1, 0, none⟩ = some (.int .i64 (to : Int)) ∧ w'.cell? ⟨b, 0, none⟩ = some (.slice (some ⟨g, 0, none⟩) S3.length cap3)) (go_keep) (first | fail)
    all_goals
      obtain ⟨hMO, hKall, hz3, hq3, hgY⟩ := unhide H3
      have hrow := World.ownsRow_lit (base := 0) (e := 3) (size := 1) w3 #[.int .i64 (to : Int), .int .i64 (f3 : Int)] 2 (by omega) (by unfold maxLen; omega) rfl
      have hMOa : MO (w3.alloc (.cells #[.int .i64 (to : Int), .int .i64 (f3 : Int)] 3)) (YL Y w (.slice none 0 0)) b S3 st en (.slice (some ⟨g, 0, none⟩) S3.length cap3) xs := by
        have key : ∀ k, k < w3.heap.size → (w3.alloc (.cells #[.int .i64 (to : Int), .int .i64 (f3 : Int)] 3)).heap[k]? = w3.heap[k]? := fun k hk => Below.heap_alloc _ _ _ hk
        exact {
          blk := (key b hbl3).trans hMO.blk
          own := own_same hMO.own fun k hk => key k (own_lt hMO.own k hk)
          free := fun j q hq => by
            obtain ⟨v, h1, h2, h3, h4, h5⟩ := hMO.free j q hq
            exact ⟨v, h1, h2, h3, own_same h4 fun k hk => key k (own_lt h4 k hk), h5⟩
          nb := hMO.nb
          np := hMO.np }
      have hMF := MH.setFree hMOa hq3 [to, f3] (.slice (some ⟨w3.heap.size, 0, none⟩) 2 2) hrow (fun k hk hy => by simp [Value.ownBlock] at hk; have := hz3 k hy; omega)
      have hcm : (w3.alloc (.cells #[.int .i64 (to : Int), .int .i64 (f3 : Int)] 3)).setCell ⟨g, 3 * S.length + 2, none⟩ (.slice (some ⟨w3.heap.size, 0, none⟩) 2 2) = (w3.setCell ⟨g, S.length * 3 + 2, none⟩ (.slice (some ⟨w3.heap.size, 0, none⟩) 2 2)).alloc (.cells #[.int .i64 (to : Int), .int .i64 (f3 : Int)] 3) := by
        rw [show 3 * S.length + 2 = S.length * 3 + 2 by omega]
        exact World.setCell_alloc_past _ _ _ _ hgl
      rw [hcm] at hMF
      have hKf : Kp Y w ((w3.setCell ⟨g, S.length * 3 + 2, none⟩ (.slice (some ⟨w3.heap.size, 0, none⟩) 2 2)).alloc (.cells #[.int .i64 (to : Int), .int .i64 (f3 : Int)] 3)).drew :=
        (((unhide HK0).trans (Kp.mono hKall (fun k _ hk => .inl hk))).trans (Kp.set w3 g _ _ (fun hy => hgY (.inl hy)))).trans ((Kp.alloc Y _ _).trans (Kp.drew Y _))
      have HF := hide (And.intro (hMF.reY (fun k _ hk => .inl hk)).drew hKf)
      clear hMO hKall hz3 hq3 hgY hrow hMOa hMF hcm hKf H3 a1 a2 a3 a4 f4 a5
      rcases unhide Hc43 with hc | hc
      · have q4 : (kd == 4) = false := by rw [unhide Hq, hc]; decide
        go_wp2
        go_ret
        exact ⟨rfl, (unhide HF).1, (unhide HF).2⟩
      · have q4 : (kd == 4) = true := by rw [unhide Hq, hc]; decide
        go_wp2
        go_ret
        exact ⟨rfl, (unhide HF).1, (unhide HF).2⟩

end Go.Proofs.YtlljggefbngkeaaGreatDoor

namespace Go.Proofs.YtlljggefbngkeaaGreatDoor
open Go.RowKit Go.Shelf
attribute [local go_sem] Oper.semAt_some

def encB (x : Nat × Nat) : Array Value := #[.int .i64 (x.1 : Int), .pointer (some ⟨x.2, 0, none⟩)]

set_option maxRecDepth 100000 in
set_option maxHeartbeats 1600000 in
theorem bk_make (n : Nat) (ao : Option Addr) (m cp : Nat) (w : World) : CallsIn Fence.wide n Tryz.prog 159 #[.slice ao m cp] w fun e w' =>
    e = .returned (.func (.func 172) #[] #[.pointer (some ⟨w.heap.size, 0, none⟩)]) ∧ w' = w.alloc (.cells #[.slice ao m cp] 162) := by
  refine callsIn_of_wp Tryz.func159 rfl trivial ?_ rfl
  simp only [Tryz.ntmps159, List.size_toArray, List.length_cons, List.length_nil, Nat.reduceAdd, Nat.reduceSub, Array.replicate_succ, Array.replicate_zero, List.push_toArray, List.append_toArray, List.nil_append, List.cons_append]
  gi_wp2
  go_ret
  exact ⟨rfl, rfl⟩

set_option maxRecDepth 100000 in
set_option maxHeartbeats 3200000 in
theorem bk_seq {w : World} {n Bs : Nat} {v : Value} {gs : List Nat} {fp : World → Nat → Prop} (hfs : ∀ A, ¬ fp A Bs) (hfv : ∀ A k, v.ownBlock = some k → ¬ fp A k) (hb : w.heap[Bs]? = some (.cells #[v] 162 (0, 0))) (hv : w.ownsRow 0 116 1 v gs.length (ptrs gs)) :
    SeqF Fence.wide n Tryz.prog 172 #[.pointer (some ⟨Bs, 0, none⟩)] encB fp false (fun pre x => pre.length < gs.length ∧ x.1 = gs.length - 1 - pre.length ∧ gs[gs.length - 1 - pre.length]? = some x.2) (fun xs => xs.length = gs.length) (fun _ => True) w := by
  intro l J Jx W hW hJs hJx _ hY h0
  have hmx := own_max hv
  obtain ⟨ao, cp, rfl⟩ := own_slice hv
  have hbW := (hW.block Bs (heap_lt hb) (by simp)).trans hb
  have hvW := own_same hv (fun k e => hW.block k (own_lt hv k e) (by simp))
  have c0 := cellOf hbW 0
  simp at c0
  have H0 := hide (And.intro hbW (And.intro hvW h0))
  have HY := hide hY
  clear hJs hJx hY h0 hW hb hv hbW hvW
  refine callsIn_of_wp Tryz.func172 rfl trivial ?_ rfl
  simp only [Tryz.ntmps172, List.size_toArray, List.length_cons, List.length_nil, Nat.reduceAdd, Nat.reduceSub, Array.replicate_succ, Array.replicate_zero, List.push_toArray, List.append_toArray, List.nil_append, List.cons_append]
  gi_wp2_with fail
  gi_loopw [3] (fun iv wr => ∃ pre : List (Nat × Nat), iv = .int .i64 ((gs.length : Int) - 1 - (pre.length : Int)) ∧ pre.length ≤ gs.length ∧ wr.heap[Bs]? = some (.cells #[.slice ao gs.length cp] 162 (0, 0)) ∧ wr.ownsRow 0 116 1 (.slice ao gs.length cp) gs.length (ptrs gs) ∧ J pre wr) (fun iv _ => (Lib.intOf iv + 1).toNat)
  case atStart => exact ⟨[], by simp, Nat.zero_le _, (unhide H0).1, (unhide H0).2.1, (unhide H0).2.2⟩
  case round =>
    obtain ⟨pre, rfl, hk, hbr, hvr, hJr⟩ := hrel
    have d0 := cellOf hbr 0
    simp at d0
    have HI := hide (And.intro hbr (And.intro hvr hJr))
    clear hbr hvr hJr c0
    by_cases hlt : pre.length < gs.length
    · have hd : (0 : Int) ≤ (gs.length : Int) - 1 - (pre.length : Int) := by omega
      obtain ⟨hbr, hvr, hJr⟩ := unhide HI
      obtain ⟨vb, cap, hveq, _, hvl⟩ := hvr.form (by omega)
      injection hveq with hao _ hcp
      subst hao
      subst hcp
      obtain ⟨gx, hgx⟩ : ∃ gx, gs[gs.length - 1 - pre.length]? = some gx := ⟨_, List.getElem?_eq_getElem (by omega)⟩
      have ck : wr.cell? ⟨vb, gs.length - 1 - pre.length, none⟩ = some (.pointer (some ⟨gx, 0, none⟩)) := by
        have h1 := hvr.cellAt (gs.length - 1 - pre.length) (by omega)
        rw [h1]
        simp [ptrs, hgx]
      have hi2 : (gs.length : Int) - 1 - (pre.length : Int) < (gs.length : Int) := by omega
      obtain ⟨fn, tmps, assign, body, hy, hRd⟩ := unhide HY pre (gs.length - 1 - pre.length, gx) wr hJr ⟨hlt, rfl, hgx⟩
      dsimp only [encB] at hy
      rw [show (((gs.length - 1 - pre.length : Nat)) : Int) = (gs.length : Int) - 1 - (pre.length : Int) by omega] at hy
      have htn : ((gs.length : Int) - 1 - (pre.length : Int)).toNat = gs.length - 1 - pre.length := by omega
      have HRd := hide hRd
      clear hbr hvr hJr hRd
      gi_wp2_with fail
      refine ⟨depth_any, ?_⟩
      refine (unhide HRd).mono ?_
      rintro e W3 (⟨rfl, hJ3, hk3⟩ | ⟨rfl, hx3⟩)
      · gi_wp2_with fail
        go_roundw
        case rel =>
          obtain ⟨hbr, hvr, _⟩ := unhide HI
          refine ⟨pre ++ [(gs.length - 1 - pre.length, gx)], by simp; omega, by simp; omega, (hk3.block _ (heap_lt hbr) (hfs _)).trans hbr, own_same hvr (fun k e => hk3.block k (own_lt hvr k e) (hfv _ k e)), hJ3⟩
        case measure => simp [Lib.intOf]; omega
      · gi_wp2
        refine bodyPost_ret (results_none rfl _ _ _) rfl ?_
        exact ⟨⟨_, rfl⟩, .inr ⟨_, trivial, hx3⟩⟩
    · have hd : ¬ (0 : Int) ≤ (gs.length : Int) - 1 - (pre.length : Int) := by omega
      have hd2 : decide ((0 : Int) ≤ (gs.length : Int) - 1 - (pre.length : Int)) = false := by simp; omega
      gi_wp2
      go_end0
      exact ⟨⟨_, rfl⟩, .inl ⟨pre, by omega, (unhide HI).2.2⟩⟩

end Go.Proofs.YtlljggefbngkeaaGreatDoor
