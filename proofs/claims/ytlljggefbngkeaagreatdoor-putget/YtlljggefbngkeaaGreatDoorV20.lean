import Derived.Test.YtlljggefbngkeaaGreatDoorV19
import Derived.Test.YtlljggefbngkeaaGreatDoorV12
namespace Go.Proofs.YtlljggefbngkeaaGreatDoor
open Go.RowKit Go.Shelf

set_option maxRecDepth 100000 in
set_option maxHeartbeats 3200000 in
/-- each, of texts: what the function makes of each -/
theorem eachS_said {w : World} {sl : Value} {l : List (List UInt8)} {N : Nat} {x y : Array Value} {G : List UInt8 → List UInt8} (hown : w.ownsRow 0 9 1 sl l.length (strs_ l)) (hl : l.length ≤ 1000) (eg : Ent N)
    (hN : ∀ (V : World) (u : List UInt8), K0 w V → u ∈ l → Calls Tryz.prog N (x.push (.string (txt u)) ++ y) V fun e V' => e = .returned (.string (txt (G u))) ∧ K0 V V') :
    Calls Tryz.prog 111 #[sl, .func (.func N) x y] w fun e w' => PcPost w (l.map G) e w' := by
  obtain ⟨i1, hi1, hy0, hy1, hy2⟩ := info_parts Tryz.infoStr
  obtain ⟨ao0, cp0, rfl⟩ := own_slice hown
  have HE := hide (And.intro hown hN)
  clear hown hN
  unfold Ent at eg
  go_enter Tryz.func111, Tryz.ntmps111
  go_wp2_with fail
  go_loopg [5, 10] (l.length + 2) (fun gk v5 v10 wv => ∃ (k : Nat), v10 = .int .i64 (k : Int) ∧ k ≤ l.length ∧ l.length - k < gk ∧ wv.ownsRow 0 9 1 v5 k (strs_ ((l.map G).take k)) ∧ (∀ j, v5.ownBlock = some j → w.heap.size ≤ j) ∧ K0 w wv)
  case atStart => exact ⟨0, rfl, Nat.zero_le _, by omega, World.ownsRow_nil _ _ _ _, fun j e => (by cases e), K0.refl _⟩
  case round =>
    obtain ⟨k, rfl, hk, hgk, hR, hfar, hK⟩ := hrel
    obtain ⟨ao, cp, rfl⟩ := own_slice hR
    obtain ⟨hown, hN⟩ := unhide HE
    by_cases hlt : k < l.length
    · have hd : (k : Int) < (l.length : Int) := by omega
      obtain ⟨vb, cap, hveq, _, hvl⟩ := hown.form (by omega)
      injection hveq with hao _ hcp
      subst hao
      subst hcp
      obtain ⟨u, hu⟩ : ∃ u, l[k]? = some u := ⟨_, List.getElem?_eq_getElem hlt⟩
      have ck : wr.cell? ⟨vb, k, none⟩ = some (.string (txt u)) := by
        rw [World.cell?_of_block (w := w) (w' := wr) (a := ⟨vb, k, none⟩) (hK.heap hvl), hown.cellAt k (by omega)]
        simp [strs_, hu]
      have HT := hide (hN wr u hK (List.mem_of_getElem? hu))
      have HR := hide (And.intro hR (And.intro hfar (And.intro hK hu)))
      clear hR hfar hK hown hN hu
      go_wp2_with fail
      refine (unhide HT).mono ?_
      rintro e w3 ⟨rfl, hk3⟩
      have hown3 := own_same (unhide HR).1 (fun j e => hk3.heap (own_lt (unhide HR).1 j e))
      have H3 := hide hk3
      clear hk3 HT
      go_wp2_with (at_builtin; refine wpList_append_lies _ rfl (.tmp 14) (.tmp 18) 64 rfl 0 9 i1 _ 1 16 Tryz.underlying64 hi1 hy0 hy1 hy2 rfl (by decide) (.slice ao k cp) k (strs_ ((l.map G).take k)) rfl (hown3.alloc _) ⟨w3.heap.size, 0, none⟩ 1 1 [.string (txt (G u))] rfl rfl (World.news_of_block (cs := #[.string (txt (G u))]) (heap_alloc_new w3 _)) (by simp [Value.oneCell']) (by omega) (by unfold maxLen; omega) (by omega) (Nat.zero_le _) _ rfl ?_)
      intro g5 cap5 w5 hown5 hgrow5 hat5 hlt5
      have H5 := hide (And.intro hown5 (And.intro hgrow5 hat5))
      clear hown5 hgrow5 hat5 hlt5 hown3
      go_wp2_with fail
      go_roundg (gk - 1)
      case measure => omega
      case rel =>
        obtain ⟨hown5, hgrow5, hat5⟩ := unhide H5
        obtain ⟨hR, hfar, hK, hu⟩ := unhide HR
        have hk3 := unhide H3
        have hKr := hK.trans hk3
        have hzr := hKr.size
        have hsz9 := hgrow5.size
        simp at hsz9
        refine ⟨k + 1, by simp, by omega, by omega, ?_, fun j e => ?_, ?_⟩
        · have : strs_ ((l.map G).take (k + 1)) = strs_ ((l.map G).take k) ++ [.string (txt (G u))] := by rw [List.take_add_one, List.getElem?_map, hu]; simp [strs_]
          rw [this]
          exact hown5
        · simp [Value.ownBlock] at e
          subst e
          rcases hat5 with e | e
          · exact hfar _ e
          · omega
        · refine ⟨hgrow5.os.trans hKr.os, hgrow5.tape.trans hKr.tape, hgrow5.output.trans hKr.output, by omega, fun j hj _ => ?_⟩
          rw [hgrow5.block j (by simp; omega) (fun e => by have := hfar j e.symm; omega), Below.heap_alloc _ _ _ (by omega)]
          exact hKr.heap hj
    · have hd : ¬ (k : Int) < (l.length : Int) := by omega
      have H7 := hide (And.intro hR hK)
      clear hR hfar hK hown hN
      go_wp2
      go_ret
      obtain ⟨hR, hK⟩ := unhide H7
      obtain rfl : k = l.length := by omega
      rw [List.take_of_length_le (by rw [List.length_map]; exact Nat.le_refl _)] at hR
      refine ⟨_, rfl, ?_, hK⟩
      rw [List.length_map]
      exact hR

end Go.Proofs.YtlljggefbngkeaaGreatDoor
