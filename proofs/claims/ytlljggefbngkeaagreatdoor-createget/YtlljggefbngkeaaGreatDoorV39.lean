import Derived.Test.YtlljggefbngkeaaGreatDoorV37
import Derived.Test.YtlljggefbngkeaaGreatDoorV20
import Derived.Test.YtlljggefbngkeaaGreatDoorV30
namespace Go.Proofs.YtlljggefbngkeaaGreatDoor
open Go.RowKit Go.Shelf

theorem Tryz.infoPtrM : (Tryz.prog.info? 120).map (fun i => (i.zero, i.size, i.bytes)) = some (some (.pointer none), 1, 8) := by kernel_rfl
theorem Tryz.infoPtrL : (Tryz.prog.info? 57).map (fun i => (i.zero, i.size, i.bytes)) = some (some (.pointer none), 1, 8) := by kernel_rfl
theorem Tryz.infoPart : (Tryz.prog.info? 128).map (fun i => (i.zero, i.size, i.bytes)) = some (some (.agg #[.int .i64 0, .pointer none, .pointer none]), 3, 24) := by kernel_rfl

/-- what lies outside a row stays, when the row grows -/
theorem grow_step {F : (Nat → Prop) → World → Prop} (hre : ∀ (Y Z : Nat → Prop) (w : World), F Y w → (∀ k, k < w.heap.size → Z k → Y k) → F Z w) (hky : ∀ (Y : Nat → Prop) (w w' : World), F Y w → KY Y w w' → F Y w') {A : Nat → Prop} {w3 w5 : World} {ob : Option Nat} {g5 : Nat} (h : F (fun k => A k ∨ ob = some k) w3) (hg : w3.grownBy w5 ob) (hat : ob = some g5 ∨ w3.heap.size ≤ g5) : F (fun k => A k ∨ some g5 = some k) w5 := by
  have h1 : F (fun k => (A k ∨ ob = some k) ∨ some g5 = some k) w3 := hre _ _ _ h (fun k hk hz => by
    rcases hz with hz | hz
    · exact hz
    · rcases hat with e | e
      · exact .inr (e.trans hz)
      · injection hz with hz
        omega)
  have h2 : F (fun k => (A k ∨ ob = some k) ∨ some g5 = some k) w5 := hky _ _ _ h1 (Kp.of_grown hg (fun k e hn => hn (.inl (.inr e))))
  exact hre _ _ _ h2 (fun k _ hz => hz.imp .inl id)

/-- machines of a row of patterns, outside Y -/
structure MsO (Y : Nat → Prop) (w : World) (sl : Value) (gs : List Nat) (ts : List PT) : Prop where
  len : gs.length = ts.length
  few : gs.length ≤ 1000
  own : w.ownsRow 0 120 1 sl gs.length (ptrs gs)
  far : ∀ j, sl.ownBlock = some j → ¬ Y j
  at_ : ∀ (i : Nat) (g : Nat) (t : PT), gs[i]? = some g → ts[i]? = some t → MachO w Y t g
theorem MsO.ky {Y : Nat → Prop} {w w' : World} {sl : Value} {gs : List Nat} {ts : List PT} (h : MsO Y w sl gs ts) (hk : KY Y w w') : MsO Y w' sl gs ts :=
  ⟨h.len, h.few, own_same h.own (fun k e => hk.block k (own_lt h.own k e) (h.far k e)), h.far, fun i g t h1 h2 => (h.at_ i g t h1 h2).ky hk⟩
theorem MsO.reY {Y Z : Nat → Prop} {w : World} {sl : Value} {gs : List Nat} {ts : List PT} (h : MsO Y w sl gs ts) (hZ : ∀ k, k < w.heap.size → Z k → Y k) : MsO Z w sl gs ts :=
  ⟨h.len, h.few, h.own, fun j e hz => h.far j e (hZ j (own_lt h.own j e) hz), fun i g t h1 h2 => (h.at_ i g t h1 h2).reY hZ⟩
theorem MsO.msAt {Y : Nat → Prop} {w : World} {sl : Value} {gs : List Nat} {ts : List PT} (h : MsO Y w sl gs ts) : MsAt w sl gs ts :=
  ⟨h.len, h.few, h.own, fun i g t h1 h2 => (h.at_ i g t h1 h2).at_⟩

/-- what stands between two rounds -/
structure MsI (w : World) (ts : List PT) (k : Nat) (v : Value) (wv : World) : Prop where
  ex : ∃ bs : List Nat, bs.length = k ∧ wv.ownsRow 0 120 1 v k (ptrs bs) ∧ ∀ (i b : Nat) (t : PT), bs[i]? = some b → ts[i]? = some t → MachO wv (fun j => j < w.heap.size ∨ v.ownBlock = some j) t b
  far : ∀ j, v.ownBlock = some j → w.heap.size ≤ j
  bel : K0 w wv

theorem at_snoc {α : Type} {l : List α} {x y : α} {i : Nat} (h : (l ++ [x])[i]? = some y) : l[i]? = some y ∨ (i = l.length ∧ y = x) := by
  rcases Nat.lt_or_ge i l.length with hi | hi
  · rw [List.getElem?_append_left hi] at h; exact .inl h
  · rw [List.getElem?_append_right hi] at h
    rcases Nat.eq_zero_or_pos (i - l.length) with e | e
    · rw [e, List.getElem?_cons_zero] at h
      exact .inr ⟨by omega, (Option.some.inj h).symm⟩
    · rw [show i - l.length = (i - l.length - 1) + 1 by omega] at h
      simp at h

def MsPost (w : World) (ts : List PT) (e : Ending) (w' : World) : Prop := ∃ sl bs, e = .returned sl ∧ MsO (fun k => k < w.heap.size) w' sl bs ts ∧ K0 w w'

set_option maxRecDepth 100000 in
set_option maxHeartbeats 3200000 in
theorem eachM_said {w : World} {Yt : Nat → Prop} {sl : Value} {gs : List Nat} {ts : List PT} (hown : w.ownsRow 0 116 1 sl gs.length (ptrs gs)) (hlen : gs.length = ts.length) (hT : ∀ (i p : Nat) (t : PT), gs[i]? = some p → ts[i]? = some t → TR w Yt t p ∧ okRep t ∧ stSize t ≤ 1000) (hl : gs.length ≤ 1000) :
    Calls Tryz.prog 121 #[sl, .func (.func 98) #[] #[]] w fun e w' => MsPost w ts e w' := by
  obtain ⟨i1, hi1, hy0, hy1, hy2⟩ := info_parts Tryz.infoPtrM
  obtain ⟨ao0, cp0, rfl⟩ := own_slice hown
  have HE := hide (And.intro hown (And.intro hT hlen))
  clear hown hT hlen
  go_enter Tryz.func121, Tryz.ntmps121
  go_wp2_with fail
  go_loopg [5, 10] (gs.length + 2) (fun gk v5 v10 wv => ∃ (k : Nat), v10 = .int .i64 (k : Int) ∧ k ≤ gs.length ∧ gs.length - k < gk ∧ MsI w ts k v5 wv)
  case atStart => exact ⟨0, rfl, Nat.zero_le _, by omega, ⟨[], rfl, World.ownsRow_nil _ _ _ _, fun i b t h => by simp at h⟩, fun j e => (by cases e), K0.refl _⟩
  case round =>
    obtain ⟨k, rfl, hk, hgk, hR⟩ := hrel
    obtain ⟨bs, hbl, hRo, hRa⟩ := hR.ex
    obtain ⟨ao, cp, rfl⟩ := own_slice hRo
    obtain ⟨hown, hT, hlen⟩ := unhide HE
    by_cases hlt : k < gs.length
    · have hd : (k : Int) < (gs.length : Int) := by omega
      obtain ⟨vb, cap, hveq, _, hvl⟩ := hown.form (by omega)
      injection hveq with hao _ hcp
      subst hao
      subst hcp
      obtain ⟨p, hp⟩ : ∃ p, gs[k]? = some p := ⟨_, List.getElem?_eq_getElem hlt⟩
      obtain ⟨t, ht⟩ : ∃ t, ts[k]? = some t := ⟨_, List.getElem?_eq_getElem (by omega)⟩
      have ck : wr.cell? ⟨vb, k, none⟩ = some (.pointer (some ⟨p, 0, none⟩)) := by
        rw [World.cell?_of_block (w := w) (w' := wr) (a := ⟨vb, k, none⟩) (hR.bel.heap hvl), hown.cellAt k (by omega)]
        simp [ptrs, hp]
      have HT := hide (mach_new (TR.kept (w' := wr) (fun j hj _ => hR.bel.heap hj) (hT k p t hp ht).1) (hT k p t hp ht).2.1 (hT k p t hp ht).2.2)
      have HR := hide (And.intro hR (And.intro hbl (And.intro hRo (And.intro hRa ht))))
      clear hR hbl hRo hRa hown hT hp ht hlen
      go_wp2_with fail
      refine (unhide HT).mono ?_
      rintro e w3 ⟨b, rfl, hMb, hk3⟩
      have hown3 := own_same (unhide HR).2.2.1 (fun j e => hk3.heap (own_lt (unhide HR).2.2.1 j e))
      have H3 := hide (And.intro hk3 hMb)
      clear hk3 hMb HT
      go_wp2_with (at_builtin; refine wpList_append_lies _ rfl (.tmp 14) (.tmp 18) 135 rfl 0 120 i1 _ 1 8 Tryz.underlying135 hi1 hy0 hy1 hy2 rfl (by decide) (.slice ao k cp) k (ptrs bs) rfl (hown3.alloc _) ⟨w3.heap.size, 0, none⟩ 1 1 [.pointer (some ⟨b, 0, none⟩)] rfl rfl (World.news_of_block (cs := #[.pointer (some ⟨b, 0, none⟩)]) (heap_alloc_new w3 _)) (by simp [Value.oneCell']) (by omega) (by unfold maxLen; omega) (by omega) (Nat.zero_le _) _ rfl ?_)
      intro g5 cap5 w5 hown5 hgrow5 hat5 hlt5
      have H5 := hide (And.intro hown5 (And.intro hgrow5 hat5))
      clear hown5 hgrow5 hat5 hlt5 hown3
      go_wp2_with fail
      go_roundg (gk - 1)
      case measure => omega
      case rel =>
        obtain ⟨hown5, hgrow5, hat5⟩ := unhide H5
        obtain ⟨hR, hbl, hRo, hRa, ht⟩ := unhide HR
        obtain ⟨hk3, hMb⟩ := unhide H3
        have hKr := hR.bel.trans hk3
        have hzr := hKr.size
        have hz3 := hk3.size
        have hsz9 := hgrow5.size
        simp at hsz9
        have hobl : ∀ j, (Value.slice ao k cp).ownBlock = some j → j < wr.heap.size := fun j e => own_lt hRo j e
        have hat' : (Value.slice ao k cp).ownBlock = some g5 ∨ (w3.alloc (.cells #[.pointer (some ⟨b, 0, none⟩)] 120)).heap.size ≤ g5 := by
          rcases hat5 with e | e
          · exact .inl e
          · exact .inr (by simp at e ⊢; omega)
        refine ⟨k + 1, by simp, by omega, by omega, ⟨bs ++ [b], by simp [hbl], ?_, fun i b' t' hb' ht' => ?_⟩, fun j e => ?_, ?_⟩
        · have : ptrs (bs ++ [b]) = ptrs bs ++ [.pointer (some ⟨b, 0, none⟩)] := by simp [ptrs]
          rw [this]
          exact hown5
        · refine grow_step (F := fun Y W => MachO W Y t' b') (fun _ _ _ h hz => h.reY hz) (fun _ _ _ h hk => h.ky hk) (ob := (Value.slice ao k cp).ownBlock) ?_ hgrow5 hat'
          rcases at_snoc hb' with h | ⟨h, rfl⟩
          · exact ((hRa i b' t' h ht').ky (hk3.ky _)).ky (Kp.alloc _ _ _)
          · obtain rfl : t' = t := by rw [h, hbl, ht] at ht'; exact (Option.some.inj ht').symm
            refine (hMb _ (fun j h1 h2 => Below.heap_alloc _ _ _ h2) (by simp)).reY (fun j _ hz => ?_)
            rcases hz with hz | hz
            · have := hR.bel.size; omega
            · exact hobl j hz
        · simp [Value.ownBlock] at e
          subst e
          rcases hat5 with e | e
          · exact hR.far _ e
          · omega
        · refine ⟨hgrow5.os.trans hKr.os, hgrow5.tape.trans hKr.tape, hgrow5.output.trans hKr.output, by omega, fun j hj _ => ?_⟩
          rw [hgrow5.block j (by simp; omega) (fun e => by have := hR.far j e.symm; omega), Below.heap_alloc _ _ _ (by omega)]
          exact hKr.heap hj
    · have hd : ¬ (k : Int) < (gs.length : Int) := by omega
      have H7 := hide (And.intro hR (And.intro hbl (And.intro hRo (And.intro hRa hlen))))
      clear hR hbl hRo hRa hown hT hlen
      go_wp2
      go_ret
      obtain ⟨hR, hbl, hRo, hRa, hlen⟩ := unhide H7
      refine ⟨_, bs, rfl, ⟨by omega, by omega, by rw [hbl]; exact hRo, fun j e hj => by have := hR.far j e; omega, fun i g t h1 h2 => (hRa i g t h1 h2).reY (fun _ _ hz => .inl hz)⟩, hR.bel⟩

end Go.Proofs.YtlljggefbngkeaaGreatDoor

namespace Go.Proofs.YtlljggefbngkeaaGreatDoor
open Go.RowKit Go.Shelf

/-- lenses as functions, in a row, outside Y -/
structure CsO (Y : Nat → Prop) (w : World) (sl : Value) (gs : List Nat) (cs : List BT) : Prop where
  len : gs.length = cs.length
  few : gs.length ≤ 1000
  own : w.ownsRow 0 57 1 sl gs.length (ptrs gs)
  far : ∀ j, sl.ownBlock = some j → ¬ Y j
  at_ : ∀ (i : Nat) (g : Nat) (c : BT), gs[i]? = some g → cs[i]? = some c → CL Y w g c
theorem CsO.ky {Y : Nat → Prop} {w w' : World} {sl : Value} {gs : List Nat} {cs : List BT} (h : CsO Y w sl gs cs) (hk : KY Y w w') : CsO Y w' sl gs cs :=
  ⟨h.len, h.few, own_same h.own (fun k e => hk.block k (own_lt h.own k e) (h.far k e)), h.far, fun i g t h1 h2 => (h.at_ i g t h1 h2).ky hk⟩

/-- what stands between two rounds -/
structure CsI (Y : Nat → Prop) (w : World) (l : List LT) (k : Nat) (v : Value) (wv : World) : Prop where
  ex : ∃ bs : List Nat, bs.length = k ∧ wv.ownsRow 0 57 1 v k (ptrs bs) ∧ ∀ (i b : Nat) (t : LT), bs[i]? = some b → l[i]? = some t → CL (fun j => Y j ∨ v.ownBlock = some j) wv b (toB t)
  far : ∀ j, v.ownBlock = some j → w.heap.size ≤ j
  bel : K0 w wv

def CsPost (Y : Nat → Prop) (w : World) (cs : List BT) (e : Ending) (w' : World) : Prop := ∃ sl bs, e = .returned sl ∧ CsO Y w' sl bs cs ∧ K0 w w'

/-- what is asked of New -/
def NewOf (s : ByteArray) (t : LT) : Prop := ∀ (w : World) (Y : Nat → Prop) (g : Nat), LR s w Y t g → (∀ k, Y k → k < w.heap.size) → Calls Tryz.prog 47 #[.pointer (some ⟨g, 0, none⟩)] w fun e w' => ClPost Y w (toB t) e w'

set_option maxRecDepth 100000 in
set_option maxHeartbeats 3200000 in
theorem eachL_said {s : ByteArray} {w : World} {Y : Nat → Prop} {sl : Value} {gs : List Nat} {l : List LT} (hY : ∀ k, Y k → k < w.heap.size) (hown : w.ownsRow 0 54 1 sl gs.length (ptrs gs)) (hlen : gs.length = l.length) (hT : ∀ (i p : Nat) (t : LT), l[i]? = some t → gs[i]? = some p → LR s w Y t p) (hN : ∀ t, t ∈ l → NewOf s t) (hl : gs.length ≤ 1000) :
    Calls Tryz.prog 67 #[sl, .func (.func 47) #[] #[]] w fun e w' => CsPost Y w (l.map toB) e w' := by
  obtain ⟨i1, hi1, hy0, hy1, hy2⟩ := info_parts Tryz.infoPtrL
  obtain ⟨ao0, cp0, rfl⟩ := own_slice hown
  have HE := hide (And.intro hown (And.intro hT (And.intro hlen (And.intro hN hY))))
  clear hown hT hlen hN hY
  go_enter Tryz.func67, Tryz.ntmps67
  go_wp2_with fail
  go_loopg [5, 10] (gs.length + 2) (fun gk v5 v10 wv => ∃ (k : Nat), v10 = .int .i64 (k : Int) ∧ k ≤ gs.length ∧ gs.length - k < gk ∧ CsI Y w l k v5 wv)
  case atStart => exact ⟨0, rfl, Nat.zero_le _, by omega, ⟨[], rfl, World.ownsRow_nil _ _ _ _, fun i b t h => by simp at h⟩, fun j e => (by cases e), K0.refl _⟩
  case round =>
    obtain ⟨k, rfl, hk, hgk, hR⟩ := hrel
    obtain ⟨bs, hbl, hRo, hRa⟩ := hR.ex
    obtain ⟨ao, cp, rfl⟩ := own_slice hRo
    obtain ⟨hown, hT, hlen, hN, hY⟩ := unhide HE
    by_cases hlt : k < gs.length
    · have hd : (k : Int) < (gs.length : Int) := by omega
      obtain ⟨vb, cap, hveq, _, hvl⟩ := hown.form (by omega)
      injection hveq with hao _ hcp
      subst hao
      subst hcp
      obtain ⟨p, hp⟩ : ∃ p, gs[k]? = some p := ⟨_, List.getElem?_eq_getElem hlt⟩
      obtain ⟨t, ht⟩ : ∃ t, l[k]? = some t := ⟨_, List.getElem?_eq_getElem (by omega)⟩
      have ck : wr.cell? ⟨vb, k, none⟩ = some (.pointer (some ⟨p, 0, none⟩)) := by
        rw [World.cell?_of_block (w := w) (w' := wr) (a := ⟨vb, k, none⟩) (hR.bel.heap hvl), hown.cellAt k (by omega)]
        simp [ptrs, hp]
      have hLu : LR s wr (fun j => Y j ∨ (Value.slice ao k cp).ownBlock = some j) t p := by
        have h1 : LR s w (fun j => Y j ∨ w.heap.size ≤ j) t p := LR.reY (fun j hj hz => hz.resolve_right (by omega)) (hT k p t ht hp)
        exact LR.reY (fun j _ hz => hz.imp id (fun e => hR.far j e)) (LR.kept (fun j hj _ => hR.bel.heap hj) h1)
      have HT := hide (hN t (List.mem_of_getElem? ht) wr _ p hLu (fun j hj => by
        rcases hj with hj | hj
        · have := hY j hj; have := hR.bel.size; omega
        · exact own_lt hRo j hj))
      have HR := hide (And.intro hR (And.intro hbl (And.intro hRo (And.intro hRa ht))))
      clear hR hbl hRo hRa hown hT hp ht hlen hN hY hLu
      go_wp2_with fail
      refine (unhide HT).mono ?_
      rintro e w3 ⟨b, rfl, hMb, hk3⟩
      have hown3 := own_same (unhide HR).2.2.1 (fun j e => hk3.heap (own_lt (unhide HR).2.2.1 j e))
      have H3 := hide (And.intro hk3 hMb)
      clear hk3 hMb HT
      go_wp2_with (at_builtin; refine wpList_append_lies _ rfl (.tmp 14) (.tmp 18) 112 rfl 0 57 i1 _ 1 8 Tryz.underlying112 hi1 hy0 hy1 hy2 rfl (by decide) (.slice ao k cp) k (ptrs bs) rfl (hown3.alloc _) ⟨w3.heap.size, 0, none⟩ 1 1 [.pointer (some ⟨b, 0, none⟩)] rfl rfl (World.news_of_block (cs := #[.pointer (some ⟨b, 0, none⟩)]) (heap_alloc_new w3 _)) (by simp [Value.oneCell']) (by omega) (by unfold maxLen; omega) (by omega) (Nat.zero_le _) _ rfl ?_)
      intro g5 cap5 w5 hown5 hgrow5 hat5 hlt5
      have H5 := hide (And.intro hown5 (And.intro hgrow5 hat5))
      clear hown5 hgrow5 hat5 hlt5 hown3
      go_wp2_with fail
      go_roundg (gk - 1)
      case measure => omega
      case rel =>
        obtain ⟨hown5, hgrow5, hat5⟩ := unhide H5
        obtain ⟨hR, hbl, hRo, hRa, ht⟩ := unhide HR
        obtain ⟨hk3, hMb⟩ := unhide H3
        have hKr := hR.bel.trans hk3
        have hzr := hKr.size
        have hz3 := hk3.size
        have hsz9 := hgrow5.size
        simp at hsz9
        have hobl : ∀ j, (Value.slice ao k cp).ownBlock = some j → j < wr.heap.size := fun j e => own_lt hRo j e
        have hat' : (Value.slice ao k cp).ownBlock = some g5 ∨ (w3.alloc (.cells #[.pointer (some ⟨b, 0, none⟩)] 57)).heap.size ≤ g5 := by
          rcases hat5 with e | e
          · exact .inl e
          · exact .inr (by simp at e ⊢; omega)
        refine ⟨k + 1, by simp, by omega, by omega, ⟨bs ++ [b], by simp [hbl], ?_, fun i b' t' hb' ht' => ?_⟩, fun j e => ?_, ?_⟩
        · have : ptrs (bs ++ [b]) = ptrs bs ++ [.pointer (some ⟨b, 0, none⟩)] := by simp [ptrs]
          rw [this]
          exact hown5
        · refine grow_step (F := fun Y W => CL Y W b' (toB t')) (fun _ _ _ h hz => h.reY hz) (fun _ _ _ h hk => h.ky hk) (ob := (Value.slice ao k cp).ownBlock) ?_ hgrow5 hat'
          rcases at_snoc hb' with h | ⟨h, rfl⟩
          · exact ((hRa i b' t' h ht').ky (hk3.ky _)).ky (Kp.alloc _ _ _)
          · obtain rfl : t' = t := by rw [h, hbl, ht] at ht'; exact (Option.some.inj ht').symm
            exact hMb.ky (Kp.alloc _ _ _)
        · simp [Value.ownBlock] at e
          subst e
          rcases hat5 with e | e
          · exact hR.far _ e
          · omega
        · refine ⟨hgrow5.os.trans hKr.os, hgrow5.tape.trans hKr.tape, hgrow5.output.trans hKr.output, by omega, fun j hj _ => ?_⟩
          rw [hgrow5.block j (by simp; omega) (fun e => by have := hR.far j e.symm; omega), Below.heap_alloc _ _ _ (by omega)]
          exact hKr.heap hj
    · have hd : ¬ (k : Int) < (gs.length : Int) := by omega
      have H7 := hide (And.intro hR (And.intro hbl (And.intro hRo (And.intro hRa (And.intro hlen hY)))))
      clear hR hbl hRo hRa hown hT hlen hN hY
      go_wp2
      go_ret
      obtain ⟨hR, hbl, hRo, hRa, hlen, hY⟩ := unhide H7
      refine ⟨_, bs, rfl, ⟨by rw [List.length_map]; omega, by omega, by rw [hbl]; exact hRo, fun j e hj => by have := hR.far j e; have := hY j hj; omega, fun i g c h1 h2 => ?_⟩, hR.bel⟩
      rw [List.getElem?_map] at h2
      cases hu : l[i]? with
      | none => rw [hu] at h2; cases h2
      | some u =>
        rw [hu] at h2
        obtain rfl := Option.some.inj h2
        exact (hRa i g u h1 hu).reY (fun _ _ hz => .inl hz)

end Go.Proofs.YtlljggefbngkeaaGreatDoor

namespace Go.Proofs.YtlljggefbngkeaaGreatDoor
open Go.RowKit Go.Shelf

def pcs3 (m : Int) (p : Nat × Nat) : List Value := [.int .i64 m, .pointer (some ⟨p.1, 0, none⟩), .pointer (some ⟨p.2, 0, none⟩)]
/-- partings in a row, outside Y -/
structure PgO (Y : Nat → Prop) (w : World) (m : Int) (sl : Value) (ps : List (Nat × Nat)) (AB : List (PT × PT)) : Prop where
  len : ps.length = AB.length
  few : ps.length ≤ 1000
  own : w.ownsRow 0 128 3 sl ps.length (ps.flatMap (pcs3 m))
  far : ∀ j, sl.ownBlock = some j → ¬ Y j
  at_ : ∀ (i : Nat) (p : Nat × Nat) (ab : PT × PT), ps[i]? = some p → AB[i]? = some ab → MachO w Y ab.1 p.1 ∧ MachO w Y ab.2 p.2
theorem PgO.ky {Y : Nat → Prop} {w w' : World} {m : Int} {sl : Value} {ps : List (Nat × Nat)} {AB : List (PT × PT)} (h : PgO Y w m sl ps AB) (hk : KY Y w w') : PgO Y w' m sl ps AB :=
  ⟨h.len, h.few, own_same h.own (fun k e => hk.block k (own_lt h.own k e) (h.far k e)), h.far, fun i g t h1 h2 => ⟨(h.at_ i g t h1 h2).1.ky hk, (h.at_ i g t h1 h2).2.ky hk⟩⟩
theorem PgO.reY {Y Z : Nat → Prop} {w : World} {m : Int} {sl : Value} {ps : List (Nat × Nat)} {AB : List (PT × PT)} (h : PgO Y w m sl ps AB) (hZ : ∀ k, k < w.heap.size → Z k → Y k) : PgO Z w m sl ps AB :=
  ⟨h.len, h.few, h.own, fun j e hz => h.far j e (hZ j (own_lt h.own j e) hz), fun i g t h1 h2 => ⟨(h.at_ i g t h1 h2).1.reY hZ, (h.at_ i g t h1 h2).2.reY hZ⟩⟩

/-- the patterns of the first k partings of a row of texts -/
def partAB (ts : List PT) (k : Nat) : List (PT × PT) := (List.range k).map fun i => (pSeq (ts.take (i + 1)), (ts[i + 1]?).getD (.seq []))
theorem partAB_len (ts : List PT) (k : Nat) : (partAB ts k).length = k := by simp [partAB]
theorem partAB_at (ts : List PT) (k i : Nat) (h : i < k) : (partAB ts k)[i]? = some (pSeq (ts.take (i + 1)), (ts[i + 1]?).getD (.seq [])) := by
  unfold partAB
  rw [List.getElem?_map, List.getElem?_range h]
  rfl

structure PgI (w : World) (m : Int) (ts : List PT) (k : Nat) (v : Value) (wv : World) : Prop where
  ex : ∃ ps : List (Nat × Nat), ps.length = k ∧ wv.ownsRow 0 128 3 v k (ps.flatMap (pcs3 m)) ∧ ∀ (i : Nat) (p : Nat × Nat) (ab : PT × PT), ps[i]? = some p → (partAB ts k)[i]? = some ab → MachO wv (fun j => j < w.heap.size ∨ v.ownBlock = some j) ab.1 p.1 ∧ MachO wv (fun j => j < w.heap.size ∨ v.ownBlock = some j) ab.2 p.2
  far : ∀ j, v.ownBlock = some j → w.heap.size ≤ j
  bel : K0 w wv

def PgPost (w : World) (m : Int) (AB : List (PT × PT)) (e : Ending) (w' : World) : Prop := ∃ sl ps, e = .returned sl ∧ PgO (fun k => k < w.heap.size) w' m sl ps AB ∧ K0 w w'

theorem trl_at {w : World} {Y : Nat → Prop} : ∀ {l : List PT} {gs : List Nat}, TRL w Y l gs → ∀ (k : Nat) (t : PT) (g : Nat), l[k]? = some t → gs[k]? = some g → TR w Y t g
  | [], [], _, k, t, g, h, _ => by simp at h
  | t :: l, g :: gs, h, k, u, x, hu, hx => by
    rw [TRL] at h
    cases k with
    | zero => simp at hu hx; subst hu hx; exact h.1
    | succ k => exact trl_at h.2 k u x (by simpa using hu) (by simpa using hx)
  | [], k :: ks, h, _, _, _, _, _ => by simp [TRL] at h
  | t :: l, [], h, _, _, _, _, _ => by simp [TRL] at h

theorem grown_k0 {w1 w3 w5 : World} {o : Obj} {ob : Option Nat} (h1 : K0 w1 w3) (hfar : ∀ j, ob = some j → w1.heap.size ≤ j) (hg : (w3.alloc o).grownBy w5 ob) : K0 w1 w5 := by
  have h2 := h1.size
  have h3 := hg.size
  simp at h3
  refine ⟨hg.os.trans h1.os, hg.tape.trans h1.tape, hg.output.trans h1.output, by omega, fun j hj _ => ?_⟩
  rw [hg.block j (by simp; omega) (fun e => by have := hfar j e.symm; omega), Below.heap_alloc _ _ _ (by omega)]
  exact h1.heap hj

set_option maxRecDepth 100000 in
set_option maxHeartbeats 3200000 in
theorem partings_said {s : ByteArray} {v : Bool} {t : LT} {w : World} {Y : Nat → Prop} {g : Nat} (hL : LR s w Y t g) (hO : VOk t) (hY : ∀ k, Y k → k < w.heap.size) (hok : ∀ x, x ∈ sideP v t → okRep x ∧ stSize x ≤ 1000) (hsz : ∀ i, okRep (pSeq ((sideP v t).take (i + 1))) ∧ stSize (pSeq ((sideP v t).take (i + 1))) ≤ 1000) (hn : 0 < (parts t).length) :
    Calls Tryz.prog 72 #[.int .i64 (sdV v), .pointer (some ⟨g, 0, none⟩)] w fun e w' => PgPost w (misV v) (partAB (sideP v t) ((parts t).length - 1)) e w' := by
  obtain ⟨i1, hi1, hy0, hy1, hy2⟩ := info_parts Tryz.infoPart
  have HP := hide (sparts (v := v) (fun u _ => stexts u) hL hO hY)
  have hpl := hO.len
  have hsl := sideP_len v t
  clear hL hO
  go_enter Tryz.func72, Tryz.ntmps72
  go_wp2_with fail
  refine (unhide HP).mono ?_
  rintro e w1 ⟨v1, gs, rfl, hR⟩
  have hlen := hR.trl.len
  obtain ⟨vb, cp0, rfl, _, hvl⟩ := hR.own.form (by omega)
  have hk1 : K0 w w1 := K0.of_grownz hR.gr
  have hcap : gs.length ≤ cp0 := by
    rcases hR.own.2 with ⟨h', _⟩ | ⟨g', cap', cur, h', _, _, hnc, _⟩
    · simp at h'
    · injection h' with _ _ hc
      omega
  have hcp : cp0 ≤ 9223372036854775807 := by
    rcases hR.own.2 with ⟨h', _⟩ | ⟨g', cap', cur, h', _, _, hnc, hcm, _⟩
    · simp at h'
    · injection h' with _ _ hc
      unfold maxLen at hcm
      omega
  have hgl : gs.length ≤ 1000 := by omega
  have HE := hide (And.intro hR (And.intro hk1 (And.intro hok (And.intro hsz (And.intro hY (And.intro hlen hsl))))))
  have hgn : gs.length = (parts t).length := by omega
  have HG := hide hgn
  have hg0 : 0 < gs.length := by omega
  have hvb : w1.heap.size = w1.heap.size := rfl
  clear hR hk1 hok hsz hY HP hlen hsl hpl hgn hn
  go_wp2_with fail
  go_loopg [6, 7] (gs.length + 2) (fun gk v6 v7 wv => ∃ (k : Nat), v7 = .int .i64 ((k : Int) + 1) ∧ k + 1 ≤ gs.length ∧ gs.length - k < gk ∧ PgI w1 (misV v) (sideP v t) k v6 wv)
  case atStart => exact ⟨0, rfl, hg0, by omega, ⟨[], rfl, World.ownsRow_nil _ _ _ _, fun i p ab h => by simp at h⟩, fun j e => (by cases e), K0.refl _⟩
  case round =>
    obtain ⟨k, rfl, hk, hgk, hI⟩ := hrel
    obtain ⟨ps, hpl, hRo, hRa⟩ := hI.ex
    obtain ⟨ao, cp, rfl⟩ := own_slice hRo
    obtain ⟨hR, hk1, hok, hsz, hY, hlen, hsl⟩ := unhide HE
    have hw1 : IntKind.i64.wrap ((k : Int) + 1 + 1) = (k : Int) + 1 + 1 := IntWalk.i64_in _ (by omega)
    by_cases hlt : k + 1 < gs.length
    · have hd : (k : Int) + 1 < (gs.length : Int) := by omega
      obtain ⟨p, hp⟩ : ∃ p, gs[k + 1]? = some p := ⟨_, List.getElem?_eq_getElem hlt⟩
      obtain ⟨tp, htp⟩ : ∃ tp, (sideP v t)[k + 1]? = some tp := ⟨_, List.getElem?_eq_getElem (by omega)⟩
      have ck : wr.cell? ⟨vb, k + 1, none⟩ = some (.pointer (some ⟨p, 0, none⟩)) := by
        rw [World.cell?_of_block (w := w1) (w' := wr) (a := ⟨vb, k + 1, none⟩) (hI.bel.heap hvl), hR.own.cellAt (k + 1) (by omega)]
        simp [ptrs, hp]
      have ck1 : w1.cell? ⟨vb, k + 1, none⟩ = some (.pointer (some ⟨p, 0, none⟩)) := by
        rw [hR.own.cellAt (k + 1) (by omega)]
        simp [ptrs, hp]
      have hown1 : w1.ownsRow 0 116 1 (.slice (some ⟨vb, 0, none⟩) (k + 1) cp0) (k + 1) (ptrs (gs.take (k + 1))) := by
        have := own_take hR.own (m := k + 1) (by omega)
        have e : (ptrs gs).take (k + 1) = ptrs (gs.take (k + 1)) := by unfold ptrs; rw [List.map_take]
        rw [e] at this
        exact this
      have hgt : (gs.take (k + 1)).length = k + 1 := by rw [List.length_take]; omega
      have hSS : ∀ V V' : World, (K0 w1 V ∧ V.cell? ⟨vb, k + 1, none⟩ = some (.pointer (some ⟨p, 0, none⟩))) → K0 V V' → (K0 w1 V' ∧ V'.cell? ⟨vb, k + 1, none⟩ = some (.pointer (some ⟨p, 0, none⟩))) := fun V V' h hk => ⟨h.1.trans hk, hk.cellz h.2⟩
      have HRow : Hid (∀ V : World, (K0 w1 V ∧ V.cell? ⟨vb, k + 1, none⟩ = some (.pointer (some ⟨p, 0, none⟩))) → Calls Tryz.prog 108 #[.slice (some ⟨vb, 0, none⟩) (k + 1) cp0] V fun e V' => (∃ q, e = .returned (.pointer (some ⟨q, 0, none⟩)) ∧ TR V' Y (pSeq ((sideP v t).take (k + 1))) q) ∧ K0 V V' ∧ (K0 w1 V' ∧ V'.cell? ⟨vb, k + 1, none⟩ = some (.pointer (some ⟨p, 0, none⟩)))) := hide (fun V h => by
        have ho : V.ownsRow 0 116 1 (.slice (some ⟨vb, 0, none⟩) (k + 1) cp0) (gs.take (k + 1)).length (ptrs (gs.take (k + 1))) := by rw [hgt]; exact own_same hown1 (fun j e => h.1.heap (own_lt hown1 j e))
        have hT : TRL V Y ((sideP v t).take (k + 1)) (gs.take (k + 1)) := TRL.take (TRL.kept (fun j hj _ => h.1.heap hj) hR.trY) _
        refine (prow ho (fun e => by rw [e] at hgt; cases hgt) (by omega) hT (fun j hj => by have := hY j hj; have := hk1.size; have := h.1.size; omega)).mono ?_
        rintro e V' ⟨q, rfl, hg, hTq⟩
        exact ⟨⟨q, rfl, hTq⟩, K0.of_grownz hg, hSS V V' h (K0.of_grownz hg)⟩)
      have HNew : Hid (∀ (V : World) (q : Nat), (K0 w1 V ∧ V.cell? ⟨vb, k + 1, none⟩ = some (.pointer (some ⟨p, 0, none⟩))) → TR V Y (pSeq ((sideP v t).take (k + 1))) q → Calls Tryz.prog 107 #[.int .i64 (sdV v), .pointer (some ⟨q, 0, none⟩), .pointer (some ⟨p, 0, none⟩)] V fun e V' => (∃ ba bb, e = .returned (.agg #[.int .i64 (misV v), .pointer (some ⟨ba, 0, none⟩), .pointer (some ⟨bb, 0, none⟩)]) ∧ MachO V' (fun k => k < V.heap.size) (pSeq ((sideP v t).take (k + 1))) ba ∧ MachO V' (fun k => k < V.heap.size) tp bb) ∧ K0 V V' ∧ (K0 w1 V' ∧ V'.cell? ⟨vb, k + 1, none⟩ = some (.pointer (some ⟨p, 0, none⟩)))) := hide (fun V q h hq => by
        have hTp : TR V Y tp p := TR.kept (fun j hj _ => h.1.heap hj) (trl_at hR.trY (k + 1) tp p htp hp)
        refine (newParting_said (v := v) hq hTp (hsz k).1 (hok tp (List.mem_of_getElem? htp)).1 (hsz k).2 (hok tp (List.mem_of_getElem? htp)).2).mono ?_
        rintro e V' ⟨hh, hg⟩
        exact ⟨hh, hg, hSS V V' h hg⟩)
      have HI := hide (And.intro hI (And.intro hpl (And.intro hRo (And.intro hRa htp))))
      have hkd : K0 w1 wr.drew := hI.bel.trans (Kp.drew _ _)
      have hlw := hI.bel.size
      have hi0 : (0 : Int) ≤ (k : Int) + 1 := by omega
      have hi2 : (k : Int) + 1 ≤ (cp0 : Int) := by omega
      have hi3 : (k : Int) + 1 ≤ (gs.length : Int) := by omega
      have hi4 : ((k : Int) + 1).toNat = k + 1 := by omega
      clear hI hpl hRo hRa hR hk1 hok hsz hY hlen hsl hown1 hgt hSS htp
      go_wp2_with fail
      go_region_held3 (fun V => (K0 w1 V ∧ V.cell? ⟨vb, k + 1, none⟩ = some (.pointer (some ⟨p, 0, none⟩)))) (go_keep) (first
        | (go_at_call 108; refine (unhide HRow _ (by assumption)).mono ?_; rintro e w2 ⟨⟨q, rfl, hTq⟩, hk2, hS2⟩)
        | (go_at_call 107; refine (unhide HNew _ q (by assumption) (by assumption)).mono ?_; rintro e w3 ⟨⟨ba, bb, rfl, hMa, hMb⟩, hk3, hS3⟩; have hka : ∀ o, K0 w1 (w3.alloc o) := fun o => hS3.1.trans (Kp.alloc _ w3 o); have hkr : K0 wr w3 := (Kp.drew _ wr).trans (hk2.trans hk3); have hown3 := own_same (unhide HI).2.2.1 (fun j e => hkr.heap (own_lt (unhide HI).2.2.1 j e)))
        | (refine step_append_lies _ (by rfl) _ _ _ (by rfl) 0 128 i1 _ 3 24 Tryz.underlying129 hi1 hy0 hy1 hy2 rfl (by omega) (.slice ao k cp) k (ps.flatMap (pcs3 (misV v))) (by rfl) (hown3.alloc _)
            ⟨w3.heap.size, 0, none⟩ 1 1 [.int .i64 (misV v), .pointer (some ⟨ba, 0, none⟩), .pointer (some ⟨bb, 0, none⟩)] (by rfl) (by rfl) (World.news_of_block (cs := #[.int .i64 (misV v), .pointer (some ⟨ba, 0, none⟩), .pointer (some ⟨bb, 0, none⟩)]) (t := 128) (fr := (0, 0)) (heap_alloc_new w3 _)) (by simp [Value.oneCell'])
            (by omega) (by unfold maxLen; omega) (by omega) (Nat.zero_le _) (w3.heap.size + 1) (by simp) ?_; intro g5 cap5 w5 hown5 hgrow5 hat5 hlt5; have hK5 : K0 w1 w5 := grown_k0 hS3.1 (unhide HI).1.far hgrow5; have hc5 := hK5.cellz ck1))
      have hz2 : wr.heap.size ≤ w2.heap.size := hk2.size
      have H5 := hide (And.intro hown5 (And.intro hgrow5 (And.intro hat5 (And.intro hMa (And.intro hMb (And.intro hkr hk3))))))
      clear hown5 hgrow5 hat5 hMa hMb hlt5 hS3 hS2 hkr hk3 hk2 hka hown3 hTq hc5
      go_wp2_with fail
      go_roundg (gk - 1)
      case measure => omega
      case rel =>
        obtain ⟨hown5, hgrow5, hat5, hMa, hMb, hkr, hk3⟩ := unhide H5
        obtain ⟨hI, hpl, hRo, hRa, htp⟩ := unhide HI
        have hz3 := hkr.size
        have hz4 := hk3.size
        have hzI := hI.bel.size
        have hobl : ∀ j, (Value.slice ao k cp).ownBlock = some j → j < wr.heap.size := fun j e => own_lt hRo j e
        have hat' : (Value.slice ao k cp).ownBlock = some g5 ∨ (w3.alloc (.cells #[.int .i64 (misV v), .pointer (some ⟨ba, 0, none⟩), .pointer (some ⟨bb, 0, none⟩)] 128)).heap.size ≤ g5 := by
          rcases hat5 with e | e
          · exact .inl e
          · exact .inr (by simp at e ⊢; omega)
        refine ⟨k + 1, by simp, by omega, by omega, ⟨ps ++ [(ba, bb)], by simp [hpl], ?_, fun i q ab hq hab => ?_⟩, fun j e => ?_, hK5⟩
        · have : (ps ++ [(ba, bb)]).flatMap (pcs3 (misV v)) = ps.flatMap (pcs3 (misV v)) ++ [.int .i64 (misV v), .pointer (some ⟨ba, 0, none⟩), .pointer (some ⟨bb, 0, none⟩)] := by simp [pcs3]
          rw [this]
          exact hown5
        · have hlt' : i < k + 1 := by have := (List.getElem?_eq_some_iff.1 hab).1; rwa [partAB_len] at this
          rw [partAB_at _ _ _ hlt'] at hab
          obtain rfl := Option.some.inj hab
          have key : MachO (w3.alloc (.cells #[.int .i64 (misV v), .pointer (some ⟨ba, 0, none⟩), .pointer (some ⟨bb, 0, none⟩)] 128)) (fun j => j < w1.heap.size ∨ (Value.slice ao k cp).ownBlock = some j) (pSeq ((sideP v t).take (i + 1))) q.1 ∧ MachO (w3.alloc (.cells #[.int .i64 (misV v), .pointer (some ⟨ba, 0, none⟩), .pointer (some ⟨bb, 0, none⟩)] 128)) (fun j => j < w1.heap.size ∨ (Value.slice ao k cp).ownBlock = some j) (((sideP v t)[i + 1]?).getD (.seq [])) q.2 := by
            rcases at_snoc hq with h | ⟨h, rfl⟩
            · have hik : i < k := by have := (List.getElem?_eq_some_iff.1 h).1; omega
              obtain ⟨m1, m2⟩ := hRa i q _ h (partAB_at _ _ _ hik)
              exact ⟨(m1.ky (hkr.ky _)).ky (Kp.alloc _ _ _), (m2.ky (hkr.ky _)).ky (Kp.alloc _ _ _)⟩
            · obtain rfl : i = k := by omega
              rw [htp]
              have hre : ∀ j, j < w1.heap.size ∨ (Value.slice ao i cp).ownBlock = some j → j < w2.heap.size := fun j hj => by
                rcases hj with hj | hj
                · omega
                · have := hobl j hj; omega
              exact ⟨(hMa.ky (Kp.alloc _ _ _)).reY (fun j _ hz => hre j hz), (hMb.ky (Kp.alloc _ _ _)).reY (fun j _ hz => hre j hz)⟩
          exact ⟨grow_step (F := fun Y W => MachO W Y (pSeq ((sideP v t).take (i + 1))) q.1) (fun _ _ _ h hz => h.reY hz) (fun _ _ _ h hk => h.ky hk) key.1 hgrow5 hat', grow_step (F := fun Y W => MachO W Y (((sideP v t)[i + 1]?).getD (.seq [])) q.2) (fun _ _ _ h hz => h.reY hz) (fun _ _ _ h hk => h.ky hk) key.2 hgrow5 hat'⟩
        · simp [Value.ownBlock] at e
          subst e
          rcases hat5 with e | e
          · exact hI.far _ e
          · omega
    · have hd : ¬ (k : Int) + 1 < (gs.length : Int) := by omega
      have H7 := hide (And.intro hI (And.intro hpl (And.intro hRo (And.intro hRa hk1))))
      clear hI hpl hRo hRa hR hk1 hok hsz hY hlen hsl
      go_wp2
      go_ret
      obtain ⟨hI, hpl, hRo, hRa, hk1⟩ := unhide H7
      have e : (parts t).length - 1 = k := by rw [← unhide HG]; omega
      rw [e]
      have hs1 := hk1.size
      refine ⟨_, ps, rfl, ⟨by rw [partAB_len, hpl], by omega, by rw [hpl]; exact hRo, fun j e hj => by have := hI.far j e; omega, fun i g t h1 h2 => ⟨(hRa i g t h1 h2).1.reY (fun _ _ hz => .inl (by omega)), (hRa i g t h1 h2).2.reY (fun _ _ hz => .inl (by omega))⟩⟩, hk1.trans hI.bel⟩

end Go.Proofs.YtlljggefbngkeaaGreatDoor
