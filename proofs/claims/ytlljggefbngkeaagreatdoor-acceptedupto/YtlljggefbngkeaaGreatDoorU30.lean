import Derived.Test.YtlljggefbngkeaaGreatDoorU29
namespace Go.Proofs.YtlljggefbngkeaaGreatDoor
open Go.RowKit Go.Shelf
attribute [local go_sem] Oper.semAt_some

theorem Tryz.infoBool' : (Tryz.prog.info? 4).map (fun i => (i.zero, i.size, i.bytes)) = some (some (.bool false), 1, 1) := by kernel_rfl

set_option maxRecDepth 100000 in
set_option maxHeartbeats 1600000 in
/-- reach(): the machine and the row are boxed, the function value captures the boxes -/
theorem mreach (n b : Nat) (ao : Option Addr) (m cp : Nat) (w : World) : CallsIn Fence.wide n Tryz.prog 165 #[.pointer (some ⟨b, 0, none⟩), .slice ao m cp] w fun e w' =>
    e = .returned (.func (.func 178) #[] #[.pointer (some ⟨w.heap.size, 0, none⟩), .pointer (some ⟨w.heap.size + 1, 0, none⟩)]) ∧ w' = (w.alloc (.cells #[.pointer (some ⟨b, 0, none⟩)] 120)).alloc (.cells #[.slice ao m cp] 80) := by
  refine callsIn_of_wp Tryz.func165 rfl trivial ?_ rfl
  simp only [Tryz.ntmps165, List.size_toArray, List.length_cons, List.length_nil, Nat.reduceAdd, Nat.reduceSub, Array.replicate_succ, Array.replicate_zero, List.push_toArray, List.append_toArray, List.nil_append, List.cons_append]
  gi_wp2
  go_ret
  exact ⟨rfl, rfl⟩

def ROk (S : List MSt) (N0 : List Nat) (pre : List Nat) (x : Nat) : Prop := x < S.length ∧ x ∉ pre ∧ pre.length < S.length ∧ ∃ a, a ∈ N0 ∧ Rch S a x
def RAll (S : List MSt) (N0 : List Nat) (xs : List Nat) : Prop := ∀ x, x ∈ xs ↔ ∃ a, a ∈ N0 ∧ Rch S a x
def RSome (S : List MSt) (N0 : List Nat) (xs : List Nat) : Prop := ∀ x, x ∈ xs → ∃ a, a ∈ N0 ∧ Rch S a x

set_option maxRecDepth 100000 in
set_option maxHeartbeats 3200000 in
theorem reach_seq {wm w : World} {n Br b Bm Bf : Nat} {S : List MSt} {st en : Nat} {N0 : List Nat} {v : Value} {fp : World → Nat → Prop} (hM : MH wm (fun k => k = Br) b S st en) (hcl : Cl S S.length) (hfl : ∀ x, freeLen S x ≤ 1000) (hS : S.length ≤ 2000) (hB : Kp (fun k => k ≠ Br) wm w)
    (hfpB : ∀ A k, fp A k → wm.heap.size ≤ k ∨ k = Br) (hfm : ∀ A, ¬ fp A Bm)
    (hbm : w.heap[Bm]? = some (.cells #[.pointer (some ⟨b, 0, none⟩)] 120 (0, 0))) (hbf : w.heap[Bf]? = some (.cells #[v] 80 (0, 0))) (hv : w.ownsRow 0 3 1 v N0.length (nums N0)) (hv0 : N0 = [] → v = .slice none 0 0) (hN : N0.length ≤ 2000) (hN0 : ∀ a, a ∈ N0 → a < S.length) :
    SeqF Fence.wide n Tryz.prog 178 #[.pointer (some ⟨Bm, 0, none⟩), .pointer (some ⟨Bf, 0, none⟩)] encN fp true (ROk S N0) (RAll S N0) (RSome S N0) w := by
  intro l J Jx W hW hJs hJx hfr hY h0
  have hfr := hfr rfl
  obtain ⟨i0, hi0, hz0, hz1, hz2⟩ := info_parts Tryz.infoBool'
  obtain ⟨i1, hi1, hy0, hy1, hy2⟩ := info_parts Tryz.infoInt
  have hBW : Kp (fun k => k ≠ Br) wm W := ⟨hW.os.trans hB.os, hW.tape.trans hB.tape, hW.output.trans hB.output, Nat.le_trans hB.size hW.size, fun k hk hy => (hW.block k (Nat.lt_of_lt_of_le hk hB.size) (by simp)).trans (hB.block k hk hy)⟩
  have hbmW := (hW.block Bm (heap_lt hbm) (by simp)).trans hbm
  have hbfW := (hW.block Bf (heap_lt hbf) (by simp)).trans hbf
  have hvW := own_same hv (fun k e => hW.block k (own_lt hv k e) (by simp))
  have hBmW : Bm < W.heap.size := heap_lt hbmW
  obtain ⟨ao, cp, q1, _, _⟩ := hM.row hBW
  obtain ⟨vo, vc, rfl⟩ := own_slice hv
  have c0 := cellOf hbmW 0
  simp at c0
  have H0 := hide (And.intro hBW (And.intro hbmW (And.intro hbfW (And.intro hvW (And.intro h0 (And.intro hv0 hN0))))))
  have HW0 := hide h0
  have HY := hide (And.intro hY (And.intro hJs (And.intro hfr hcl)))
  have HM := hide (And.intro hM (And.intro hfpB (And.intro hfm hfl)))
  clear hY hJs hJx hfr h0 hW hB hbm hbf hv hBW hbmW hbfW hvW hv0 hN0 hcl hM hfpB hfm hfl
  refine callsIn_of_wp Tryz.func178 rfl trivial ?_ rfl
  simp only [Tryz.ntmps178, List.size_toArray, List.length_cons, List.length_nil, Nat.reduceAdd, Nat.reduceSub, Array.replicate_succ, Array.replicate_zero, List.push_toArray, List.append_toArray, List.nil_append, List.cons_append]
  gi_wp2_with (gi_at_make; refine wpListIn_make_full rfl _ _ 77 rfl 4 i0 (.bool false) 1 Tryz.underlying77 hi0 hz0 hz1 _ _ _ _ S.length rfl rfl rfl rfl (by rw [hz2]; omega) (by unfold maxLen; omega) ?_)
  intro w1 hown1 hg1
  have HR : Hid (BR w1 W.heap.size S.length S.length fun _ => false) := hide (BR.made hown1)
  obtain ⟨hBW, hbmW, hbfW, hvW, h0, hv0, hN0⟩ := unhide H0
  have hz1' : Fz W.heap.size fp W w1 := Fz.of_grown hg1 (fun k e => by cases e)
  have hj1 := (unhide HY).2.1 [] W w1 h0 hz1'
  have hbm1 := (hg1.block Bm hBmW (by simp)).trans hbmW
  have hbf1 := (hg1.block Bf (heap_lt hbfW) (by simp)).trans hbfW
  have hv1 := own_same hvW (fun k e => hg1.block k (own_lt hvW k e) (by simp))
  have hB1 : Kp (fun k => k ≠ Br) wm w1 := ⟨hg1.os.trans hBW.os, hg1.tape.trans hBW.tape, hg1.output.trans hBW.output, Nat.le_trans hBW.size hg1.size, fun k hk hy => (hg1.block k (Nat.lt_of_lt_of_le hk hBW.size) (by simp)).trans (hBW.block k hk hy)⟩
  have d1 := cellOf hbf1 0
  simp at d1
  have HC := hide (iclone hv1 hv0 hN)
  have HJ1 := hide (And.intro hj1 (And.intro hbm1 (And.intro hB1 (And.intro hN0 hBW.size))))
  clear hown1 hg1 H0 hBW hbmW hbfW hvW h0 hv0 hN0 hz1' hj1 hbm1 hbf1 hv1 hB1
  gi_wp2_with fail
  refine ⟨trivial, depth_any, (callsIn_wide.2 (unhide HC)).mono ?_⟩
  rintro e w2 ⟨v2, rfl, hown2, hg2, hob2⟩
  obtain ⟨hj1, hbm1, hB1, hN0, hsz⟩ := unhide HJ1
  obtain ⟨hY, hJs, hfr, hcl⟩ := unhide HY
  obtain ⟨hM, hfpB, hfm, hfl⟩ := unhide HM
  have hgsn : W.heap.size < w1.heap.size := (unhide HR).lt
  have hz2' : Fz W.heap.size fp w1 w2 := Fz.of_grown hg2 (fun k e => by cases e)
  have hj2 := hJs [] w1 w2 hj1.1 hz2'
  have HRI : Hid (RI wm Br b S N0 Bm W.heap.size W.heap.size fp J v2 w2 [] N0 (fun _ => false)) := hide
    { own := hown2
      br := (unhide HR).kept (hg2.block _ hgsn (by simp))
      fs := fun j _ => by simp
      wl1 := fun x hx => ⟨hN0 x hx, x, hx, Rch.refl S x⟩
      pr := fun x hx => by cases hx
      n0 := fun a ha => .inr ha
      fr := fun x hx => by cases hx
      cnt := by rw [wt_one]; simp
      bd := by
        have h1 := wt_none (freeLen S) 1000 hfl (fun _ => false) S.length
        have h2 : 1000 * S.length ≤ 1000 * 2000 := Nat.mul_le_mul_left _ hS
        omega
      j := hj2.1
      bel := ⟨hg2.os.trans hB1.os, hg2.tape.trans hB1.tape, hg2.output.trans hB1.output, Nat.le_trans hB1.size hg2.size, fun k hk hy => (hg2.block k (by omega) (by simp)).trans (hB1.block k hk hy)⟩
      bx := (hg2.block _ (heap_lt hbm1) (by simp)).trans hbm1
      ob := fun k hk => by
        have h1 := hob2 k hk
        refine ⟨by omega, by omega, fun hf => ?_⟩
        have h2 := hfr [] w1 hj1.1 k ((hj2.2 k).1 hf)
        omega
      og := fun hf => by
        have h2 := hfr [] W (unhide HW0) W.heap.size ((hj1.2 _).1 ((hj2.2 _).1 hf))
        omega }
  obtain ⟨vo2, vc2, rfl⟩ := own_slice hown2
  clear hown2 hg2 hob2 hj1 hbm1 hB1 hN0 hY hJs hfr hcl hM hfpB hfm hfl hz2' hj2 c0 d1 q1
  gi_wp2_with fail
  gi_loopw [5] (fun v5 wr => ∃ pre wl f, RI wm Br b S N0 Bm W.heap.size W.heap.size fp J v5 wr pre wl f) (fun v5 wr => slLen v5 + wt (fOf wr W.heap.size) (freeLen S) S.length)
  case atStart => exact ⟨_, _, _, unhide HRI⟩
  case round =>
    obtain ⟨pre, wl, f, hR⟩ := hrel
    obtain ⟨ao5, cp5, rfl⟩ := own_slice hR.own
    rcases Nat.eq_zero_or_pos wl.length with hw0 | hw0
    · obtain rfl := List.eq_nil_of_length_eq_zero hw0
      have HI := hide hR
      clear hR hw0
      gi_wp2_with fail
      go_end0
      refine ⟨⟨_, rfl⟩, .inl ⟨pre, fun x => ⟨fun hx => (unhide HI).pr x hx, ?_⟩, (unhide HI).j⟩⟩
      rintro ⟨a, ha, k, hr⟩
      have hR := unhide HI
      exact closed_rch (fun x hx p hp y hy => (hR.fr x hx p hp y hy).resolve_right (by simp)) hr rfl ((hR.n0 a ha).resolve_right (by simp))
    · obtain ⟨wl', x, rfl⟩ := snoc_of wl hw0
      obtain ⟨g5, cap5, hveq, _, hvl⟩ := hR.own.form hw0
      injection hveq with hao _ hcp
      subst hao
      subst hcp
      obtain ⟨hx1, hx2⟩ := hR.wl1 x (by simp)
      have ho := hR.own
      rw [List.length_append, List.length_singleton] at ho
      have ck : wr.cell? ⟨g5, wl'.length, none⟩ = some (.int .i64 (x : Int)) := by
        rw [ho.cellAt _ (by omega)]
        simp [nums]
      have cs := hR.br.cell x hx1
      have cz := hR.br.fz x
      have ho' : wr.ownsRow 0 3 1 (.slice (some ⟨g5, 0, none⟩) wl'.length cp5) wl'.length (nums wl') := own_init (by simpa [nums] using ho) (by simp [nums])
      have hmx := own_max ho
      have hcap : wl'.length ≤ cp5 := by
        rcases ho.2 with ⟨h', _⟩ | ⟨g', cap', cur, h', _, _, hnc, _⟩
        · simp at h'
        · injection h' with _ _ hc
          omega
      have hpos : (0 : Int) < (wl'.length : Int) + 1 := by omega
      have HI := hide (And.intro hR (And.intro ho' (And.intro hx1 hx2)))
      have hl : (wl' ++ [x]).length = wl'.length + 1 := by simp
      rw [hl]
      clear hR ho ho' hx2 hw0 hl
      by_cases hfx : f x = true
      · rw [hfx] at cs
        gi_wp2_with fail
        go_roundw
        case rel =>
          obtain ⟨hR, ho', hx1, hx2⟩ := unhide HI
          have hxp := (hR.fs x hx1).1 hfx
          have hsw : ∀ y, y ∈ pre ∨ y ∈ wl' ++ [x] → y ∈ pre ∨ y ∈ wl' := by
            intro y hy
            rcases hy with hy | hy
            · exact .inl hy
            · rcases List.mem_append.1 hy with hy | hy
              · exact .inr hy
              · rw [List.mem_singleton] at hy
                subst hy
                exact .inl hxp
          exact ⟨pre, wl', f, {
            own := ho'
            br := hR.br
            fs := hR.fs
            wl1 := fun y hy => hR.wl1 y (List.mem_append_left _ hy)
            pr := hR.pr
            n0 := fun a ha => hsw a (hR.n0 a ha)
            fr := fun y hy p hp z hz => hsw z (hR.fr y hy p hp z hz)
            cnt := hR.cnt
            bd := by have := hR.bd; simp at this; omega
            j := hR.j
            bel := hR.bel
            bx := hR.bx
            ob := hR.ob
            og := hR.og }⟩
        case measure => simp [slLen]
      · have hfx : f x = false := by simpa using hfx
        rw [hfx] at cs
        obtain ⟨hR, ho', hx1', hx2⟩ := unhide HI
        obtain ⟨hY, hJs, hfr, hcl⟩ := unhide HY
        obtain ⟨hM, hfpB, hfm, hfl⟩ := unhide HM
        have hgl := hR.br.lt
        have hsz := (unhide HJ1).2.2.2.2
        have hgs : wr.grownBy (wr.setCell ⟨W.heap.size, x, none⟩ (.bool true)) (some W.heap.size) := (World.ownsRow.stored hR.br x (.bool true)).2
        have hzs : Fz W.heap.size fp wr (wr.setCell ⟨W.heap.size, x, none⟩ (.bool true)) := Fz.of_grown hgs (fun k e => by cases e; exact ⟨Nat.le_refl _, hR.og⟩)
        have hjs := hJs pre _ _ hR.j hzs
        have hpl : pre.length < S.length := by
          have h1 := hR.cnt
          have h2 := wt_upd (g := fun _ => 1) hfx hx1'
          omega
        have hnp : x ∉ pre := fun h => by rw [(hR.fs x hx1').2 h] at hfx; cases hfx
        obtain ⟨fn, tmps, assign, body, hy, hRd⟩ := hY pre x _ hjs.1 ⟨hx1', hnp, hpl, hx2⟩
        dsimp only [encN] at hy
        have HRd := hide (And.intro hRd (And.intro hgs (And.intro hzs (And.intro hjs (And.intro hpl (And.intro hnp hgl))))))
        clear hR ho' hx1' hx2 hY hJs hfr hcl hM hfpB hfm hfl hgl hgs hzs hjs hpl hnp hRd
        gi_wp2_with fail
        refine ⟨depth_any, ?_⟩
        refine (unhide HRd).1.mono ?_
        rintro e W3 (⟨rfl, hJ3, hk3⟩ | ⟨rfl, hx3⟩)
        · obtain ⟨hR, ho', hx1', hx2⟩ := unhide HI
          obtain ⟨_, hgs, hzs, hjs, hpl, hnp, hgl⟩ := unhide HRd
          obtain ⟨hY, hJs, hfr, hcl⟩ := unhide HY
          obtain ⟨hM, hfpB, hfm, hfl⟩ := unhide HM
          have hsz := (unhide HJ1).2.2.2.2
          have key : ∀ k, k < wr.heap.size → k ≠ W.heap.size → ¬ fp wr k → W3.heap[k]? = wr.heap[k]? := fun k hk hn hf =>
            (hk3.block k (Nat.lt_of_lt_of_le hk hgs.size) (fun h => hf ((hjs.2 k).1 h))).trans (hgs.block k hk (by simpa using hn))
          have hB3 : Kp (fun k => k ≠ Br) wm W3 := ⟨hk3.os.trans (hgs.os.trans hR.bel.os), hk3.tape.trans (hgs.tape.trans hR.bel.tape), hk3.output.trans (hgs.output.trans hR.bel.output), Nat.le_trans hR.bel.size (Nat.le_trans hgs.size hk3.size),
            fun k hk hy => (key k (Nat.lt_of_lt_of_le hk hR.bel.size) (by omega) (fun h => by have := hfpB _ _ h; omega)).trans (hR.bel.block k hk hy)⟩
          have hbx3 := (key Bm (heap_lt hR.bx) (by omega) (hfm _)).trans hR.bx
          have ho3 := own_same ho' (fun k e => key k (own_lt ho' k e) (hR.ob k e).2.1 (hR.ob k e).2.2)
          have hbr3 : BR W3 W.heap.size S.length S.length (upd f x true) := (hR.br.set x true).kept (hk3.block _ (Nat.lt_of_lt_of_le hgl hgs.size) (fun h => hR.og ((hjs.2 _).1 h)))
          obtain ⟨p, hp⟩ : ∃ p, S[x]? = some p := ⟨_, List.getElem?_eq_getElem hx1'⟩
          obtain ⟨ao9, cp9, k1, _, k3⟩ := hM.row hB3
          obtain ⟨g9, v9, rfl, _, _, k6, ho9, hob9⟩ := k3 x p hp
          obtain ⟨ao8, cp8, rfl⟩ := own_slice ho9
          have k0 := cellOf hbx3 0
          simp at k0
          have hbd : wl'.length + p.free.length ≤ 4000000 := by
            have h1 := hR.bd
            have h2 := wt_upd (g := freeLen S) hfx hx1'
            have h3 : freeLen S x = p.free.length := by unfold freeLen; rw [hp]
            simp at h1
            omega
          have hone : ∀ u ∈ nums p.free, u.oneCell' = true := by
            intro u hu
            simp only [nums, List.mem_map] at hu
            obtain ⟨k, _, rfl⟩ := hu
            rfl
          have H3 := hide (And.intro hJ3 (And.intro hk3 (And.intro hB3 (And.intro hbx3 (And.intro hbr3 (And.intro hp (And.intro hob9 key)))))))
          have H4 := hide (And.intro ho3 (And.intro ho9 hone))
          clear hR ho' hx1' hx2 hgs hzs hjs hpl hnp hgl hY hJs hfr hcl hM hfpB hfm hfl hB3 hbx3 ho3 hbr3 hp k3 ho9 hob9 hJ3 hk3 key hone
          gi_wp2_with (gi_at_builtin; refine wpListIn_append_row rfl (.tmp 40) (.tmp 48) 80 rfl 3 i1 (.int .i64 0) 8 Tryz.underlying80 hi1 hy0 hy1 hy2 rfl _ wl'.length (nums wl') rfl (unhide H4).1 _ p.free.length (nums p.free) rfl (unhide H4).2.1 (unhide H4).2.2 (by unfold maxLen; omega) (by omega) ?_)
          intro v6 w6 hown6 hg6 hat6
          obtain ⟨ao6, cp6, rfl⟩ := own_slice hown6
          have hlen6 : wl'.length + p.free.length = (wl' ++ p.free).length := by simp
          have H6 := hide (And.intro hown6 (And.intro hg6 hat6))
          clear hown6 hg6 hat6
          gi_wp2_with fail
          go_roundw
          case rel =>
            obtain ⟨hR, ho', hx1', hx2⟩ := unhide HI
            obtain ⟨_, hgs, hzs, hjs, hpl, hnp, hgl⟩ := unhide HRd
            obtain ⟨hY, hJs, hfr, hcl⟩ := unhide HY
            obtain ⟨hM, hfpB, hfm, hfl⟩ := unhide HM
            have hsz := (unhide HJ1).2.2.2.2
            obtain ⟨hJ3, hk3, hB3, hbx3, hbr3, hp, hob9, key⟩ := unhide H3
            obtain ⟨hown6, hg6, hat6⟩ := unhide H6
            have hs3 : wr.heap.size ≤ W3.heap.size := Nat.le_trans hgs.size hk3.size
            have hnf : ∀ k, k < wr.heap.size → ¬ fp wr k → ¬ fp W3 k := fun k hk hn h => by
              rcases hk3.new k h with h | h
              · exact hn ((hjs.2 k).1 h)
              · have := hgs.size
                omega
            have hg5 := hR.ob g5 rfl
            have hg5l := own_lt ho' g5 rfl
            have hz6 : Fz W.heap.size fp W3 w6 := Fz.of_grown hg6 (fun k e => by cases e; exact ⟨hg5.1, hnf g5 hg5l hg5.2.2⟩)
            have hj6 := hJs _ _ _ hJ3 hz6
            have hk6 : ∀ k, k < W3.heap.size → k ≠ g5 → w6.heap[k]? = W3.heap[k]? := fun k hk hn => hg6.block k hk (fun e => hn (by cases e; rfl))
            have hpx : ∀ y, y ∈ pre ∨ y ∈ wl' ++ [x] → y ∈ pre ++ [x] ∨ y ∈ wl' ++ p.free := by
              intro y hy
              rcases hy with hy | hy
              · exact .inl (List.mem_append_left _ hy)
              · rcases List.mem_append.1 hy with hy | hy
                · exact .inr (List.mem_append_left _ hy)
                · exact .inl (List.mem_append_right _ hy)
            refine ⟨pre ++ [x], wl' ++ p.free, upd f x true, {
              own := by rw [← hlen6]; simpa [nums] using hown6
              br := hbr3.kept (hk6 _ (by omega) (Ne.symm hg5.2.1))
              fs := fun j hj => ?_
              wl1 := fun y hy => ?_
              pr := fun y hy => ?_
              n0 := fun a ha => hpx a (hR.n0 a ha)
              fr := fun y hy q hq z hz => ?_
              cnt := ?_
              bd := ?_
              j := hj6.1
              bel := ⟨hg6.os.trans hB3.os, hg6.tape.trans hB3.tape, hg6.output.trans hB3.output, Nat.le_trans hB3.size hg6.size, fun k hk hy => (hk6 k (Nat.lt_of_lt_of_le hk hB3.size) (by have := hg5.1; omega)).trans (hB3.block k hk hy)⟩
              bx := (hk6 _ (heap_lt hbx3) (by have := hg5.1; omega)).trans hbx3
              ob := fun k hk => ?_
              og := fun hf => hnf _ hgl hR.og ((hj6.2 _).1 hf) }⟩
            · unfold upd
              by_cases e : j = x
              · subst e
                simp
              · rw [if_neg e, hR.fs j hj]
                simp [e]
            · rcases List.mem_append.1 hy with hy | hy
              · exact hR.wl1 y (List.mem_append_left _ hy)
              · obtain ⟨a, ha, hr⟩ := hx2
                exact ⟨(hcl x p hp).2 y hy, a, ha, hr.one hp hy⟩
            · rcases List.mem_append.1 hy with hy | hy
              · exact hR.pr y hy
              · rw [List.mem_singleton] at hy
                subst hy
                exact hx2
            · rcases List.mem_append.1 hy with hy | hy
              · exact hpx z (hR.fr y hy q hq z hz)
              · rw [List.mem_singleton] at hy
                subst hy
                rw [hp] at hq
                cases hq
                exact .inr (List.mem_append_right _ hz)
            · have h1 := hR.cnt
              have h2 := wt_upd (g := fun _ => 1) hfx hx1'
              simp only [List.length_append, List.length_singleton]
              omega
            · have h1 := hR.bd
              have h2 := wt_upd (g := freeLen S) hfx hx1'
              have h3 : freeLen S x = p.free.length := by unfold freeLen; rw [hp]
              simp only [List.length_append, List.length_singleton] at h1 ⊢
              omega
            · rcases hat6 with h | h
              · have e : k = g5 := by rw [hk] at h; cases h; rfl
                subst e
                exact ⟨hg5.1, hg5.2.1, fun hf => hnf _ hg5l hg5.2.2 ((hj6.2 _).1 hf)⟩
              · have e : k = W3.heap.size := by rw [hk] at h; cases h; rfl
                subst e
                refine ⟨by omega, by omega, fun hf => ?_⟩
                have := hfr _ _ hJ3 _ ((hj6.2 _).1 hf)
                omega
          case measure =>
            obtain ⟨hR, ho', hx1', hx2⟩ := unhide HI
            obtain ⟨hJ3, hk3, hB3, hbx3, hbr3, hp, hob9, key⟩ := unhide H3
            obtain ⟨hown6, hg6, hat6⟩ := unhide H6
            have hg5 := hR.ob g5 rfl
            have e1 : wt (fOf wr W.heap.size) (freeLen S) S.length = wt f (freeLen S) S.length := wt_congr (fun y hy => fOf_eq hR.br y hy)
            have hbr6 : BR w6 W.heap.size S.length S.length (upd f x true) := hbr3.kept (hg6.block _ hbr3.lt (fun e => hg5.2.1 (by cases e; rfl)))
            have e2 : wt (fOf w6 W.heap.size) (freeLen S) S.length = wt (upd f x true) (freeLen S) S.length := wt_congr (fun y hy => fOf_eq hbr6 y hy)
            have h2 := wt_upd (g := freeLen S) hfx hx1'
            have h3 : freeLen S x = p.free.length := by unfold freeLen; rw [hp]
            simp only [slLen]
            rw [e1, e2]
            omega
        · gi_wp2
          refine bodyPost_ret (results_none rfl _ _ _) rfl ?_
          refine ⟨⟨_, rfl⟩, .inr ⟨_, fun y hy => ?_, hx3⟩⟩
          obtain ⟨hR, ho', hx1', hx2⟩ := unhide HI
          rcases List.mem_append.1 hy with hy | hy
          · exact hR.pr y hy
          · rw [List.mem_singleton] at hy
            subst hy
            exact hx2
end Go.Proofs.YtlljggefbngkeaaGreatDoor
