import Derived.Test.YtlljggefbngkeaaGreatDoorV16
namespace Go.Proofs.YtlljggefbngkeaaGreatDoor
open Go.RowKit Go.Shelf
attribute [local go_sem] Oper.semAt_some

theorem Tryz.infoBool' : (Tryz.prog.info? 4).map (fun i => (i.zero, i.size, i.bytes)) = some (some (.bool false), 1, 1) := by kernel_rfl

set_option maxRecDepth 100000 in
set_option maxHeartbeats 1600000 in
/-- reach(): the machine and the row are boxed, the function value captures the boxes -/
theorem mreach (n b : Nat) (ao : Option Addr) (m cp : Nat) (w : World) : CallsIn Fence.wide n Tryz.prog 165 #[.pointer (some ⟨b, 0, none⟩), .slice ao m cp] w fun e w' =>
    e = .returned (.func (.func 178) #[] #[.pointer (some ⟨w.heap.size, 0, none⟩), .pointer (some ⟨w.heap.size + 1, 0, none⟩)]) ∧ w' = (w.alloc (.cells #[.pointer (some ⟨b, 0, none⟩)] 120)).alloc (.cells #[.slice ao m cp] 80) := by
  refine callsIn_of_wp Tryz.func165 rfl trivial ?_ rfl
  simp only [Tryz.ntmps165, List.size_toArray, List.length_cons, List.length_nil, Nat.reduceAdd, Nat.reduceSub, Array.replicate_succ, Array.replicate_zero, List.push_toArray, List.append_toArray, List.nil_append, List.cons_append]
  gi_wp2
  go_ret
  exact ⟨rfl, rfl⟩

def ROk (S : List MSt) (N0 : List Nat) (pre : List Nat) (x : Nat) : Prop := x < S.length ∧ x ∉ pre ∧ pre.length < S.length ∧ ∃ a, a ∈ N0 ∧ Rch S a x
def RAll (S : List MSt) (N0 : List Nat) (xs : List Nat) : Prop := ∀ x, x ∈ xs ↔ ∃ a, a ∈ N0 ∧ Rch S a x
def RSome (S : List MSt) (N0 : List Nat) (xs : List Nat) : Prop := ∀ x, x ∈ xs → ∃ a, a ∈ N0 ∧ Rch S a x

set_option maxRecDepth 100000 in
set_option maxHeartbeats 3200000 in
theorem reach_seq {wm w : World} {n Br b Bm Bf : Nat} {S : List MSt} {st en : Nat} {N0 : List Nat} {v : Value} {fp : World → Nat → Prop} (hM : MH wm (fun k => k = Br) b S st en) (hcl : Cl S S.length) (hfl : ∀ x, freeLen S x ≤ 1000) (hS : S.length ≤ 2000) (hB : Kp (fun k => k ≠ Br) wm w)
    (hfpB : ∀ A k, fp A k → wm.heap.size ≤ k ∨ k = Br) (hfm : ∀ A, ¬ fp A Bm)
    (hbm : w.heap[Bm]? = some (.cells #[.pointer (some ⟨b, 0, none⟩)] 120 (0, 0))) (hbf : w.heap[Bf]? = some (.cells #[v] 80 (0, 0))) (hv : w.ownsRow 0 3 1 v N0.length (nums N0)) (hv0 : N0 = [] → v = .slice none 0 0) (hN : N0.length ≤ 2000) (hN0 : ∀ a, a ∈ N0 → a < S.length) :
    SeqF Fence.wide n Tryz.prog 178 #[.pointer (some ⟨Bm, 0, none⟩), .pointer (some ⟨Bf, 0, none⟩)] encN fp true (ROk S N0) (RAll S N0) (RSome S N0) w := by
  intro l J Jx W hW hJs hJx hfr hY h0
  have hfr := hfr rfl
  obtain ⟨i0, hi0, hz0, hz1, hz2⟩ := info_parts Tryz.infoBool'
  obtain ⟨i1, hi1, hy0, hy1, hy2⟩ := info_parts Tryz.infoInt
  have hBW : Kp (fun k => k ≠ Br) wm W := ⟨hW.os.trans hB.os, hW.tape.trans hB.tape, hW.output.trans hB.output, Nat.le_trans hB.size hW.size, fun k hk hy => (hW.block k (Nat.lt_of_lt_of_le hk hB.size) (by simp)).trans (hB.block k hk hy)⟩
  have hbmW := (hW.block Bm (heap_lt hbm) (by simp)).trans hbm
  have hbfW := (hW.block Bf (heap_lt hbf) (by simp)).trans hbf
  have hvW := own_same hv (fun k e => hW.block k (own_lt hv k e) (by simp))
  have hBmW : Bm < W.heap.size := heap_lt hbmW
  obtain ⟨ao, cp, q1, _, _⟩ := hM.row hBW
  obtain ⟨vo, vc, rfl⟩ := own_slice hv
  have c0 := cellOf hbmW 0
  simp at c0
  have H0 := hide (And.intro hBW (And.intro hbmW (And.intro hbfW (And.intro hvW (And.intro h0 (And.intro hv0 hN0))))))
  have HW0 := hide h0
  have HY := hide (And.intro hY (And.intro hJs (And.intro hfr hcl)))
  have HM := hide (And.intro hM (And.intro hfpB (And.intro hfm hfl)))
  clear hY hJs hJx hfr h0 hW hB hbm hbf hv hBW hbmW hbfW hvW hv0 hN0 hcl hM hfpB hfm hfl
  refine callsIn_of_wp Tryz.func178 rfl trivial ?_ rfl
  simp only [Tryz.ntmps178, List.size_toArray, List.length_cons, List.length_nil, Nat.reduceAdd, Nat.reduceSub, Array.replicate_succ, Array.replicate_zero, List.push_toArray, List.append_toArray, List.nil_append, List.cons_append]
  gi_wp2_with (gi_at_make; refine wpListIn_make_full rfl _ _ 77 rfl 4 i0 (.bool false) 1 Tryz.underlying77 hi0 hz0 hz1 _ _ _ _ S.length rfl rfl rfl rfl (by rw [hz2]; omega) (by unfold maxLen; omega) ?_)
  intro w1 hown1 hg1
  have HR : Hid (BR w1 W.heap.size S.length S.length fun _ => false) := hide (BR.made hown1)
  obtain ⟨hBW, hbmW, hbfW, hvW, h0, hv0, hN0⟩ := unhide H0
  have hz1' : Fz W.heap.size fp W w1 := Fz.of_grown hg1 (fun k e => by cases e)
  have hj1 := (unhide HY).2.1 [] W w1 h0 hz1'
  have hbm1 := (hg1.block Bm hBmW (by simp)).trans hbmW
  have hbf1 := (hg1.block Bf (heap_lt hbfW) (by simp)).trans hbfW
  have hv1 := own_same hvW (fun k e => hg1.block k (own_lt hvW k e) (by simp))
  have hB1 : Kp (fun k => k ≠ Br) wm w1 := ⟨hg1.os.trans hBW.os, hg1.tape.trans hBW.tape, hg1.output.trans hBW.output, Nat.le_trans hBW.size hg1.size, fun k hk hy => (hg1.block k (Nat.lt_of_lt_of_le hk hBW.size) (by simp)).trans (hBW.block k hk hy)⟩
  have d1 := cellOf hbf1 0
  simp at d1
  have HC := hide (iclone hv1 hv0 hN)
  have HJ1 := hide (And.intro hj1 (And.intro hbm1 (And.intro hB1 (And.intro hN0 hBW.size))))
  clear hown1 hg1 H0 hBW hbmW hbfW hvW h0 hv0 hN0 hz1' hj1 hbm1 hbf1 hv1 hB1
  gi_wp2_with fail
  refine ⟨trivial, depth_any, (callsIn_wide.2 (unhide HC)).mono ?_⟩
  rintro e w2 ⟨v2, rfl, hown2, hg2, hob2⟩
  obtain ⟨hj1, hbm1, hB1, hN0, hsz⟩ := unhide HJ1
  obtain ⟨hY, hJs, hfr, hcl⟩ := unhide HY
  obtain ⟨hM, hfpB, hfm, hfl⟩ := unhide HM
  have hgsn : W.heap.size < w1.heap.size := (unhide HR).lt
  have hz2' : Fz W.heap.size fp w1 w2 := Fz.of_grown hg2 (fun k e => by cases e)
  have hj2 := hJs [] w1 w2 hj1.1 hz2'
  have HRI : Hid (RI wm Br b S N0 Bm W.heap.size W.heap.size fp J v2 w2 [] N0 (fun _ => false)) := hide
    { own := hown2
      br := (unhide HR).kept (hg2.block _ hgsn (by simp))
      fs := fun j _ => by simp
      wl1 := fun x hx => ⟨hN0 x hx, x, hx, Rch.refl S x⟩
      pr := fun x hx => by cases hx
      n0 := fun a ha => .inr ha
      fr := fun x hx => by cases hx
      cnt := by rw [wt_one]; simp
      bd := by
        have h1 := wt_none (freeLen S) 1000 hfl (fun _ => false) S.length
        have h2 : 1000 * S.length ≤ 1000 * 2000 := Nat.mul_le_mul_left _ hS
        omega
      j := hj2.1
      bel := ⟨hg2.os.trans hB1.os, hg2.tape.trans hB1.tape, hg2.output.trans hB1.output, Nat.le_trans hB1.size hg2.size, fun k hk hy => (hg2.block k (by omega) (by simp)).trans (hB1.block k hk hy)⟩
      bx := (hg2.block _ (heap_lt hbm1) (by simp)).trans hbm1
      ob := fun k hk => by
        have h1 := hob2 k hk
        refine ⟨by omega, by omega, fun hf => ?_⟩
        have h2 := hfr [] w1 hj1.1 k ((hj2.2 k).1 hf)
        omega
      og := fun hf => by
        have h2 := hfr [] W (unhide HW0) W.heap.size ((hj1.2 _).1 ((hj2.2 _).1 hf))
        omega }
  obtain ⟨vo2, vc2, rfl⟩ := own_slice hown2
  clear hown2 hg2 hob2 hj1 hbm1 hB1 hN0 hY hJs hfr hcl hM hfpB hfm hfl hz2' hj2 c0 d1 q1
  gi_wp2_with fail
  gi_loopw [5] (fun v5 wr => ∃ pre wl f, RI wm Br b S N0 Bm W.heap.size W.heap.size fp J v5 wr pre wl f) (fun v5 wr => slLen v5 + wt (fOf wr W.heap.size) (freeLen S) S.length)
  case atStart => exact ⟨_, _, _, unhide HRI⟩
  case round =>
    obtain ⟨pre, wl, f, hR⟩ := hrel
    obtain ⟨ao5, cp5, rfl⟩ := own_slice hR.own
    rcases Nat.eq_zero_or_pos wl.length with hw0 | hw0
    · obtain rfl := List.eq_nil_of_length_eq_zero hw0
      have HI := hide hR
      clear hR hw0
      gi_wp2_with fail
      go_end0
      refine ⟨⟨_, rfl⟩, .inl ⟨pre, fun x => ⟨fun hx => (unhide HI).pr x hx, ?_⟩, (unhide HI).j⟩⟩
      rintro ⟨a, ha, k, hr⟩
      have hR := unhide HI
      exact closed_rch (fun x hx p hp y hy => (hR.fr x hx p hp y hy).resolve_right (by simp)) hr rfl ((hR.n0 a ha).resolve_right (by simp))
    · obtain ⟨wl', x, rfl⟩ := snoc_of wl hw0
      obtain ⟨g5, cap5, hveq, _, hvl⟩ := hR.own.form hw0
      injection hveq with hao _ hcp
      subst hao
      subst hcp
      obtain ⟨hx1, hx2⟩ := hR.wl1 x (by simp)
      have ho := hR.own
      rw [List.length_append, List.length_singleton] at ho
      have ck : wr.cell? ⟨g5, wl'.length, none⟩ = some (.int .i64 (x : Int)) := by
        rw [ho.cellAt _ (by omega)]
        simp [nums]
      have cs := hR.br.cell x hx1
      have cz := hR.br.fz x
      have ho' : wr.ownsRow 0 3 1 (.slice (some ⟨g5, 0, none⟩) wl'.length cp5) wl'.length (nums wl') := own_init (by simpa [nums] using ho) (by simp [nums])
      have hmx := own_max ho
      have hcap : wl'.length ≤ cp5 := by
        rcases ho.2 with ⟨h', _⟩ | ⟨g', cap', cur, h', _, _, hnc, _⟩
        · simp at h'
        · injection h' with _ _ hc
          omega
      have hpos : (0 : Int) < (wl'.length : Int) + 1 := by omega
      have HI := hide (And.intro hR (And.intro ho' (And.intro hx1 hx2)))
      have hl : (wl' ++ [x]).length = wl'.length + 1 := by simp
      rw [hl]
      clear hR ho ho' hx2 hw0 hl
      by_cases hfx : f x = true
      · rw [hfx] at cs
        gi_wp2_with fail
        go_roundw
        case rel =>
          obtain ⟨hR, ho', hx1, hx2⟩ := unhide HI
          have hxp := (hR.fs x hx1).1 hfx
          have hsw : ∀ y, y ∈ pre ∨ y ∈ wl' ++ [x] → y ∈ pre ∨ y ∈ wl' := by
            intro y hy
            rcases hy with hy | hy
            · exact .inl hy
            · rcases List.mem_append.1 hy with hy | hy
              · exact .inr hy
              · rw [List.mem_singleton] at hy
                subst hy
                exact .inl hxp
          exact ⟨pre, wl', f, {
            own := ho'
            br := hR.br
            fs := hR.fs
            wl1 := fun y hy => hR.wl1 y (List.mem_append_left _ hy)
            pr := hR.pr
            n0 := fun a ha => hsw a (hR.n0 a ha)
            fr := fun y hy p hp z hz => hsw z (hR.fr y hy p hp z hz)
            cnt := hR.cnt
            bd := by have := hR.bd; simp at this; omega
            j := hR.j
            bel := hR.bel
            bx := hR.bx
            ob := hR.ob
            og := hR.og }⟩
        case measure => simp [slLen]
      · have hfx : f x = false := by simpa using hfx
        rw [hfx] at cs
        obtain ⟨hR, ho', hx1', hx2⟩ := unhide HI
        obtain ⟨hY, hJs, hfr, hcl⟩ := unhide HY
        obtain ⟨hM, hfpB, hfm, hfl⟩ := unhide HM
        have hgl := hR.br.lt
        have hsz := (unhide HJ1).2.2.2.2
        have hgs : wr.grownBy (wr.setCell ⟨W.heap.size, x, none⟩ (.bool true)) (some W.heap.size) := (World.ownsRow.stored hR.br x (.bool true)).2
        have hzs : Fz W.heap.size fp wr (wr.setCell ⟨W.heap.size, x, none⟩ (.bool true)) := Fz.of_grown hgs (fun k e => by cases e; exact ⟨Nat.le_refl _, hR.og⟩)
        have hjs := hJs pre _ _ hR.j hzs
        have hpl : pre.length < S.length := by
          have h1 := hR.cnt
          have h2 := wt_upd (g := fun _ => 1) hfx hx1'
          omega
        have hnp : x ∉ pre := fun h => by rw [(hR.fs x hx1').2 h] at hfx; cases hfx
        obtain ⟨fn, tmps, assign, body, hy, hRd⟩ := hY pre x _ hjs.1 ⟨hx1', hnp, hpl, hx2⟩
        dsimp only [encN] at hy
        have HRd := hide (And.intro hRd (And.intro hgs (And.intro hzs (And.intro hjs (And.intro hpl (And.intro hnp hgl))))))
        clear hR ho' hx1' hx2 hY hJs hfr hcl hM hfpB hfm hfl hgl hgs hzs hjs hpl hnp hRd
        gi_wp2_with fail
        refine ⟨depth_any, ?_⟩
        refine (unhide HRd).1.mono ?_
        rintro e W3 (⟨rfl, hJ3, hk3⟩ | ⟨rfl, hx3⟩)
        · obtain ⟨hR, ho', hx1', hx2⟩ := unhide HI
          obtain ⟨_, hgs, hzs, hjs, hpl, hnp, hgl⟩ := unhide HRd
          obtain ⟨hY, hJs, hfr, hcl⟩ := unhide HY
          obtain ⟨hM, hfpB, hfm, hfl⟩ := unhide HM
          have hsz := (unhide HJ1).2.2.2.2
          have key : ∀ k, k < wr.heap.size → k ≠ W.heap.size → ¬ fp wr k → W3.heap[k]? = wr.heap[k]? := fun k hk hn hf =>
            (hk3.block k (Nat.lt_of_lt_of_le hk hgs.size) (fun h => hf ((hjs.2 k).1 h))).trans (hgs.block k hk (by simpa using hn))
          have hB3 : Kp (fun k => k ≠ Br) wm W3 := ⟨hk3.os.trans (hgs.os.trans hR.bel.os), hk3.tape.trans (hgs.tape.trans hR.bel.tape), hk3.output.trans (hgs.output.trans hR.bel.output), Nat.le_trans hR.bel.size (Nat.le_trans hgs.size hk3.size),
            fun k hk hy => (key k (Nat.lt_of_lt_of_le hk hR.bel.size) (by omega) (fun h => by have := hfpB _ _ h; omega)).trans (hR.bel.block k hk hy)⟩
          have hbx3 := (key Bm (heap_lt hR.bx) (by omega) (hfm _)).trans hR.bx
          have ho3 := own_same ho' (fun k e => key k (own_lt ho' k e) (hR.ob k e).2.1 (hR.ob k e).2.2)
          have hbr3 : BR W3 W.heap.size S.length S.length (upd f x true) := (hR.br.set x true).kept (hk3.block _ (Nat.lt_of_lt_of_le hgl hgs.size) (fun h => hR.og ((hjs.2 _).1 h)))
          obtain ⟨p, hp⟩ : ∃ p, S[x]? = some p := ⟨_, List.getElem?_eq_getElem hx1'⟩
          obtain ⟨ao9, cp9, k1, _, k3⟩ := hM.row hB3
          obtain ⟨g9, v9, rfl, _, _, k6, ho9, hob9⟩ := k3 x p hp
          obtain ⟨ao8, cp8, rfl⟩ := own_slice ho9
          have k0 := cellOf hbx3 0
          simp at k0
          have hbd : wl'.length + p.free.length ≤ 4000000 := by
            have h1 := hR.bd
            have h2 := wt_upd (g := freeLen S) hfx hx1'
            have h3 : freeLen S x = p.free.length := by unfold freeLen; rw [hp]
            simp at h1
            omega
          have hone : ∀ u ∈ nums p.free, u.oneCell' = true := by
            intro u hu
            simp only [nums, List.mem_map] at hu
            obtain ⟨k, _, rfl⟩ := hu
            rfl
          have H3 := hide (And.intro hJ3 (And.intro hk3 (And.intro hB3 (And.intro hbx3 (And.intro hbr3 (And.intro hp (And.intro hob9 key)))))))
          have H4 := hide (And.intro ho3 (And.intro ho9 hone))
          clear hR ho' hx1' hx2 hgs hzs hjs hpl hnp hgl hY hJs hfr hcl hM hfpB hfm hfl hB3 hbx3 ho3 hbr3 hp k3 ho9 hob9 hJ3 hk3 key hone
          gi_wp2_with (gi_at_builtin; refine wpListIn_append_row rfl (.tmp 40) (.tmp 48) 80 rfl 3 i1 (.int .i64 0) 8 Tryz.underlying80 hi1 hy0 hy1 hy2 rfl _ wl'.length (nums wl') rfl (unhide H4).1 _ p.free.length (nums p.free) rfl (unhide H4).2.1 (unhide H4).2.2 (by unfold maxLen; omega) (by omega) ?_)
          intro v6 w6 hown6 hg6 hat6
          obtain ⟨ao6, cp6, rfl⟩ := own_slice hown6
          have hlen6 : wl'.length + p.free.length = (wl' ++ p.free).length := by simp
          have H6 := hide (And.intro hown6 (And.intro hg6 hat6))
          clear hown6 hg6 hat6
          gi_wp2_with fail
          go_roundw
          case rel =>
            obtain ⟨hR, ho', hx1', hx2⟩ := unhide HI
            obtain ⟨_, hgs, hzs, hjs, hpl, hnp, hgl⟩ := unhide HRd
            obtain ⟨hY, hJs, hfr, hcl⟩ := unhide HY
            obtain ⟨hM, hfpB, hfm, hfl⟩ := unhide HM
            have hsz := (unhide HJ1).2.2.2.2
            obtain ⟨hJ3, hk3, hB3, hbx3, hbr3, hp, hob9, key⟩ := unhide H3
            obtain ⟨hown6, hg6, hat6⟩ := unhide H6
            have hs3 : wr.heap.size ≤ W3.heap.size := Nat.le_trans hgs.size hk3.size
            have hnf : ∀ k, k < wr.heap.size → ¬ fp wr k → ¬ fp W3 k := fun k hk hn h => by
              rcases hk3.new k h with h | h
              · exact hn ((hjs.2 k).1 h)
              · have := hgs.size
                omega
            have hg5 := hR.ob g5 rfl
            have hg5l := own_lt ho' g5 rfl
            have hz6 : Fz W.heap.size fp W3 w6 := Fz.of_grown hg6 (fun k e => by cases e; exact ⟨hg5.1, hnf g5 hg5l hg5.2.2⟩)
            have hj6 := hJs _ _ _ hJ3 hz6
            have hk6 : ∀ k, k < W3.heap.size → k ≠ g5 → w6.heap[k]? = W3.heap[k]? := fun k hk hn => hg6.block k hk (fun e => hn (by cases e; rfl))
            have hpx : ∀ y, y ∈ pre ∨ y ∈ wl' ++ [x] → y ∈ pre ++ [x] ∨ y ∈ wl' ++ p.free := by
              intro y hy
              rcases hy with hy | hy
              · exact .inl (List.mem_append_left _ hy)
              · rcases List.mem_append.1 hy with hy | hy
                · exact .inr (List.mem_append_left _ hy)
                · exact .inl (List.mem_append_right _ hy)
            refine ⟨pre ++ [x], wl' ++ p.free, upd f x true, {
              own := by rw [← hlen6]; simpa [nums] using hown6
              br := hbr3.kept (hk6 _ (by omega) (Ne.symm hg5.2.1))
              fs := fun j hj => ?_
              wl1 := fun y hy => ?_
              pr := fun y hy => ?_
              n0 := fun a ha => hpx a (hR.n0 a ha)
              fr := fun y hy q hq z hz => ?_
              cnt := ?_
              bd := ?_
              j := hj6.1
              bel := ⟨hg6.os.trans hB3.os, hg6.tape.trans hB3.tape, hg6.output.trans hB3.output, Nat.le_trans hB3.size hg6.size, fun k hk hy => (hk6 k (Nat.lt_of_lt_of_le hk hB3.size) (by have := hg5.1; omega)).trans (hB3.block k hk hy)⟩
              bx := (hk6 _ (heap_lt hbx3) (by have := hg5.1; omega)).trans hbx3
              ob := fun k hk => ?_
              og := fun hf => hnf _ hgl hR.og ((hj6.2 _).1 hf) }⟩
            · unfold upd
              by_cases e : j = x
              · subst e
                simp
              · rw [if_neg e, hR.fs j hj]
                simp [e]
            · rcases List.mem_append.1 hy with hy | hy
              · exact hR.wl1 y (List.mem_append_left _ hy)
              · obtain ⟨a, ha, hr⟩ := hx2
                exact ⟨(hcl x p hp).2 y hy, a, ha, hr.one hp hy⟩
            · rcases List.mem_append.1 hy with hy | hy
              · exact hR.pr y hy
              · rw [List.mem_singleton] at hy
                subst hy
                exact hx2
            · rcases List.mem_append.1 hy with hy | hy
              · exact hpx z (hR.fr y hy q hq z hz)
              · rw [List.mem_singleton] at hy
                subst hy
                rw [hp] at hq
                cases hq
                exact .inr (List.mem_append_right _ hz)
            · have h1 := hR.cnt
              have h2 := wt_upd (g := fun _ => 1) hfx hx1'
              simp only [List.length_append, List.length_singleton]
              omega
            · have h1 := hR.bd
              have h2 := wt_upd (g := freeLen S) hfx hx1'
              have h3 : freeLen S x = p.free.length := by unfold freeLen; rw [hp]
              simp only [List.length_append, List.length_singleton] at h1 ⊢
              omega
            · rcases hat6 with h | h
              · have e : k = g5 := by rw [hk] at h; cases h; rfl
                subst e
                exact ⟨hg5.1, hg5.2.1, fun hf => hnf _ hg5l hg5.2.2 ((hj6.2 _).1 hf)⟩
              · have e : k = W3.heap.size := by rw [hk] at h; cases h; rfl
                subst e
                refine ⟨by omega, by omega, fun hf => ?_⟩
                have := hfr _ _ hJ3 _ ((hj6.2 _).1 hf)
                omega
          case measure =>
            obtain ⟨hR, ho', hx1', hx2⟩ := unhide HI
            obtain ⟨hJ3, hk3, hB3, hbx3, hbr3, hp, hob9, key⟩ := unhide H3
            obtain ⟨hown6, hg6, hat6⟩ := unhide H6
            have hg5 := hR.ob g5 rfl
            have e1 : wt (fOf wr W.heap.size) (freeLen S) S.length = wt f (freeLen S) S.length := wt_congr (fun y hy => fOf_eq hR.br y hy)
            have hbr6 : BR w6 W.heap.size S.length S.length (upd f x true) := hbr3.kept (hg6.block _ hbr3.lt (fun e => hg5.2.1 (by cases e; rfl)))
            have e2 : wt (fOf w6 W.heap.size) (freeLen S) S.length = wt (upd f x true) (freeLen S) S.length := wt_congr (fun y hy => fOf_eq hbr6 y hy)
            have h2 := wt_upd (g := freeLen S) hfx hx1'
            have h3 : freeLen S x = p.free.length := by unfold freeLen; rw [hp]
            simp only [slLen]
            rw [e1, e2]
            omega
        · gi_wp2
          refine bodyPost_ret (results_none rfl _ _ _) rfl ?_
          refine ⟨⟨_, rfl⟩, .inr ⟨_, fun y hy => ?_, hx3⟩⟩
          obtain ⟨hR, ho', hx1', hx2⟩ := unhide HI
          rcases List.mem_append.1 hy with hy | hy
          · exact hR.pr y hy
          · rw [List.mem_singleton] at hy
            subst hy
            exact hx2
end Go.Proofs.YtlljggefbngkeaaGreatDoor

namespace Go.Proofs.YtlljggefbngkeaaGreatDoor
open Go.RowKit Go.Shelf
attribute [local go_sem] Oper.semAt_some

theorem run_append_row {P : Program} {w : World} {t ty e : TypeId} {i : TypeInfo} {z : Value} {bytes : Nat} (ht : P.underlying t = some (.slice e)) (hi : P.info? e = some i) (hz : i.zero = some z)
    (hsize : i.size = 1) (hby : i.bytes = bytes) (hzs : z.cells.size = 1) {v : Value} {m : Nat} {xs : List Value} (hown : w.ownsRow 0 e 1 v m xs)
    {g cap k : Nat} {ys : List Value} (hu : w.ownsRow 0 e 1 (.slice (some ⟨g, 0, none⟩) k cap) k ys) (h1 : ∀ y ∈ ys, y.oneCell' = true) (h63 : m + k ≤ maxLen) (hbytes : (m + k) * bytes ≤ 140737488355328) :
    ∃ v' w', (Builtin.append_ #[t, t] ty #[v, .slice (some ⟨g, 0, none⟩) k cap]).run P w = .ok v' w' ∧ w'.ownsRow 0 e 1 v' (m + k) (xs ++ ys) ∧ w.grownBy w' v.ownBlock ∧ (v'.ownBlock = v.ownBlock ∨ v'.ownBlock = some w.heap.size) := by
  obtain ⟨v', w', r1, r2, r3, _, r5⟩ := run_append_own_at (P := P) w 0 t ty e i z 1 bytes ht hi hz hsize hby hzs (by decide) v m xs hown ⟨g, 0, none⟩ k cap ys hu.1 (fun j y hy => by
    have hj : j < k * 1 := by have := (List.getElem?_eq_some_iff.1 hy).1; rw [hu.1] at this; exact this
    have hadd : (⟨g, 0, none⟩ : Addr).add j = ⟨g, j, none⟩ := by unfold Addr.add; split <;> simp_all
    rw [hadd, hu.cellAt j hj]
    exact hy) h1 h63 hbytes (Nat.zero_le _)
  exact ⟨v', w', r1, r2, r3, r5⟩

theorem five_at (W : World) (o1 o2 o3 o4 o5 : Obj) : ∃ w5, ((((W.alloc o1).alloc o2).alloc o3).alloc o4).alloc o5 = w5 ∧ w5.heap.size = W.heap.size + 5 ∧ w5.heap[W.heap.size]? = some o1 ∧ w5.heap[W.heap.size + 1]? = some o2 ∧ w5.heap[W.heap.size + 2]? = some o3 ∧ w5.heap[W.heap.size + 3]? = some o4 ∧ w5.heap[W.heap.size + 4]? = some o5 ∧ W.grownBy w5 none := by
  have e2 : (W.alloc o1).heap.size = W.heap.size + 1 := by simp
  have e3 : ((W.alloc o1).alloc o2).heap.size = W.heap.size + 2 := by simp
  have e4 : (((W.alloc o1).alloc o2).alloc o3).heap.size = W.heap.size + 3 := by simp
  have e5 : ((((W.alloc o1).alloc o2).alloc o3).alloc o4).heap.size = W.heap.size + 4 := by simp
  refine ⟨_, rfl, by simp, heap_alloc_old _ (heap_alloc_old _ (heap_alloc_old _ (heap_alloc_old _ (heap_alloc_new W o1)))), heap_alloc_old _ (heap_alloc_old _ (heap_alloc_old _ (e2 ▸ heap_alloc_new _ o2))), heap_alloc_old _ (heap_alloc_old _ (e3 ▸ heap_alloc_new _ o3)), heap_alloc_old _ (e4 ▸ heap_alloc_new _ o4), e5 ▸ heap_alloc_new _ o5, ?_⟩
  exact ((((World.grownBy_alloc W _ none).trans (World.grownBy_alloc _ _ none)).trans (World.grownBy_alloc _ _ none)).trans (World.grownBy_alloc _ _ none)).trans (World.grownBy_alloc _ _ none)

/-- the blocks that a round of step may turn: the box of next, and the row that lies in it -/
def fpS (B : Nat) (A : World) (k : Nat) : Prop := k = B ∨ (B + 5 ≤ k ∧ ∃ v, A.cell? ⟨B, 0, none⟩ = some v ∧ v.ownBlock = some k)

structure StI (W : World) (b : Nat) (S : List MSt) (c : UInt8) (pre : List Nat) (A : World) (v : Value) (N' : List Nat) : Prop where
  bn : A.heap[W.heap.size + 2]? = some (.cells #[v] 80 (0, 0))
  own : A.ownsRow 0 3 1 v N'.length (nums N')
  far : ∀ k, v.ownBlock = some k → W.heap.size + 7 ≤ k
  nil : N' = [] → v = .slice none 0 0
  len : N'.length ≤ pre.length
  pl : pre.length ≤ S.length
  mem : ∀ x, x ∈ N' ↔ ∃ s p, s ∈ pre ∧ S[s]? = some p ∧ c ∈ p.set ∧ x = p.nx
  bm : A.heap[W.heap.size]? = some (.cells #[.pointer (some ⟨b, 0, none⟩)] 120 (0, 0))
  bc : A.heap[W.heap.size + 1]? = some (.cells #[.int .u8 (c.toNat : Int)] 5 (0, 0))
  gr : W.grownBy A none

def StepI (W : World) (b : Nat) (S : List MSt) (c : UInt8) (pre : List Nat) (A : World) : Prop := ∃ v N', StI W b S c pre A v N'

theorem StI.fp {W : World} {b : Nat} {S : List MSt} {c : UInt8} {pre : List Nat} {A : World} {v : Value} {N' : List Nat} (h : StI W b S c pre A v N') (k : Nat) : fpS (W.heap.size + 2) A k ↔ (k = W.heap.size + 2 ∨ v.ownBlock = some k) := by
  have hc : A.cell? ⟨W.heap.size + 2, 0, none⟩ = some v := by rw [cellOf h.bn 0]; rfl
  unfold fpS
  rw [hc]
  constructor
  · rintro (h1 | ⟨_, u, h2, h3⟩)
    · exact .inl h1
    · cases h2
      exact .inr h3
  · rintro (h1 | h1)
    · exact .inl h1
    · exact .inr ⟨by have := h.far k h1; omega, v, rfl, h1⟩

theorem StI.stab {W : World} {b : Nat} {S : List MSt} {c : UInt8} {pre : List Nat} {A A' : World} {v : Value} {N' : List Nat} {N : Nat} (h : StI W b S c pre A v N') (hN : W.heap.size + 2 ≤ N) (hz : Fz N (fpS (W.heap.size + 2)) A A') : StI W b S c pre A' v N' ∧ ∀ k, fpS (W.heap.size + 2) A' k ↔ fpS (W.heap.size + 2) A k := by
  have h' : StI W b S c pre A' v N' := {
    bn := (hz.block _ (heap_lt h.bn) (.inr (.inl rfl))).trans h.bn
    own := own_same h.own (fun k e => hz.block k (own_lt h.own k e) (.inr ((h.fp k).2 (.inr e))))
    far := h.far
    nil := h.nil
    len := h.len
    pl := h.pl
    mem := h.mem
    bm := (hz.block _ (heap_lt h.bm) (.inl (by omega))).trans h.bm
    bc := (hz.block _ (heap_lt h.bc) (.inl (by omega))).trans h.bc
    gr := ⟨hz.os.trans h.gr.os, hz.tape.trans h.gr.tape, hz.output.trans h.gr.output, Nat.le_trans h.gr.size hz.size, fun k hk hn => (hz.block k (Nat.lt_of_lt_of_le hk h.gr.size) (.inl (by omega))).trans (h.gr.block k hk hn)⟩ }
  exact ⟨h', fun k => by rw [h'.fp, h.fp]⟩

def StepPost (W : World) (S : List MSt) (N0 : List Nat) (c : UInt8) (e : Ending) (w' : World) : Prop :=
  ∃ v' N', e = .returned v' ∧ w'.ownsRow 0 3 1 v' N'.length (nums N') ∧ (N' = [] → v' = .slice none 0 0) ∧ Stepped S N0 c N' ∧ N'.length ≤ S.length ∧ W.grownBy w' none ∧ ∀ k, v'.ownBlock = some k → W.heap.size ≤ k

/-- append, veiled: the walk does not lay it open -/
def apW (t ty : TypeId) (args : Array Value) : Sem Value := Builtin.append_ #[t, t] ty args
theorem app_veil (t ty : TypeId) (args : Array Value) : Builtin.append_ #[t, t] ty args = apW t ty args := rfl
attribute [local go_sem ↓] app_veil

set_option maxRecDepth 100000 in
set_option maxHeartbeats 3200000 in
theorem mstep {wm W : World} {Br b : Nat} {S : List MSt} {st en : Nat} {N0 : List Nat} {v : Value} (hM : MH wm (fun k => k = Br) b S st en) (hcl : Cl S S.length) (hfl : ∀ x, freeLen S x ≤ 1000) (hS : S.length ≤ 2000) (hB : Kp (fun k => k ≠ Br) wm W)
    (hv : W.ownsRow 0 3 1 v N0.length (nums N0)) (hv0 : N0 = [] → v = .slice none 0 0) (hN : N0.length ≤ 2000) (hN0 : ∀ a, a ∈ N0 → a < S.length) (c : UInt8) :
    Calls Tryz.prog 151 #[.pointer (some ⟨b, 0, none⟩), v, .int .u8 (c.toNat : Int)] W fun e w' => StepPost W S N0 c e w' := by
  obtain ⟨i1, hi1, hy0, hy1, hy2⟩ := info_parts Tryz.infoInt
  obtain ⟨ao, cp, rfl⟩ := own_slice hv
  refine (callsIn_wide (n := 3)).1 ?_
  refine callsIn_of_wp_marks Tryz.func151 rfl trivial ?_ rfl
  simp only [Tryz.ntmps151, List.size_toArray, List.length_cons, List.length_nil, Nat.reduceAdd, Nat.reduceSub, Array.replicate_succ, Array.replicate_zero, List.push_toArray, List.append_toArray, List.nil_append, List.cons_append]
  gi_wp2_with fail
  refine ⟨trivial, (mreach 2 b ao N0.length cp _).mono ?_⟩
  rintro e w' ⟨rfl, rfl⟩
  gi_wp2_with fail
  obtain ⟨w5, hw5, hs5, h51, h52, h53, h54, h55, hg5⟩ := five_at W (.cells #[.pointer (some ⟨b, 0, none⟩)] 120) (.cells #[.int .u8 (c.toNat : Int)] 5) (.cells #[.slice none 0 0] 80) (.cells #[.pointer (some ⟨b, 0, none⟩)] 120) (.cells #[.slice ao N0.length cp] 80)
  rw [hw5]
  simp only [Nat.add_assoc, Nat.reduceAdd]
  have hB5 : Kp (fun k => k ≠ Br) wm w5 := ⟨hg5.os.trans hB.os, hg5.tape.trans hB.tape, hg5.output.trans hB.output, Nat.le_trans hB.size hg5.size, fun k hk hy => (hg5.block k (Nat.lt_of_lt_of_le hk hB.size) (by simp)).trans (hB.block k hk hy)⟩
  have hv5 := own_same hv (fun k e => hg5.block k (own_lt hv k e) (by simp))
  have hsz := hB.size
  clear hw5
  refine wpIn_rangeF (α := Nat) rfl (by decide) (gf := 178) (lb := #[.pointer (some ⟨W.heap.size + 3, 0, none⟩), .pointer (some ⟨W.heap.size + 4, 0, none⟩)]) rfl trivial (enters_of Tryz.func178 (by kernel_rfl) rfl)
    (reach_seq (fp := fpS (W.heap.size + 2)) hM hcl hfl hS hB5 (fun A k h => .inl (h.elim (fun e => by omega) (fun h => by have := h.1; omega))) (fun A h => h.elim (fun e => by omega) (fun h => by have := h.1; omega)) h54 h55 hv5 hv0 hN hN0) (fun _ => rfl)
    (StepI W b S c) (fun _ _ => False)
    (fun pre A A' h hz => ?stab) (fun _ _ _ h => h.elim) (fun _ _ _ h => h.elim)
    (fun pre A k h hk => ?fl) (fun _ pre A h k hk => ?f0)
    ⟨.slice none 0 0, [], {
      bn := h53
      own := World.ownsRow_nil _ _ _ _
      far := fun k e => by cases e
      nil := fun _ => rfl
      len := Nat.le_refl _
      pl := Nat.zero_le _
      mem := fun x => ⟨fun h => (by cases h), fun h => (by obtain ⟨s, p, h, _⟩ := h; cases h)⟩
      bm := h51
      bc := h52
      gr := hg5 }⟩
    ?a1 ?assign ?body ?done ?stop
  case stab =>
    obtain ⟨v, N', h⟩ := h
    obtain ⟨q1, q2⟩ := h.stab (by omega) hz
    exact ⟨⟨v, N', q1⟩, q2⟩
  case fl =>
    obtain ⟨v, N', h⟩ := h
    rcases hk with hk | ⟨hk, _⟩
    · exact .inl (by omega)
    · exact .inr (by omega)
  case f0 =>
    obtain ⟨v, N', h⟩ := h
    rcases (h.fp k).1 hk with rfl | hk
    · exact heap_lt h.bn
    · exact own_lt h.own k hk
  case assign =>
    intro l' x W K hK
    simp only [encN]
    gi_wp2
    exact hK
  case body =>
    rintro l' pre x Wr ⟨v, N', hI⟩ ⟨hx1, hx2, hx3, hx4⟩ hWs
    obtain ⟨p, hp⟩ : ∃ p, S[x]? = some p := ⟨_, List.getElem?_eq_getElem hx1⟩
    have hBr : Kp (fun k => k ≠ Br) wm Wr := ⟨hI.gr.os.trans hB.os, hI.gr.tape.trans hB.tape, hI.gr.output.trans hB.output, Nat.le_trans hB.size hI.gr.size, fun k hk hy => (hI.gr.block k (Nat.lt_of_lt_of_le hk hB.size) (by simp)).trans (hB.block k hk hy)⟩
    have hBw : ∀ w', Wr.grownBy w' none → Kp (fun k => k ≠ Br) wm w' := fun w' hg => ⟨hg.os.trans hBr.os, hg.tape.trans hBr.tape, hg.output.trans hBr.output, Nat.le_trans hBr.size hg.size, fun k hk hy => (hg.block k (Nat.lt_of_lt_of_le hk hBr.size) (by simp)).trans (hBr.block k hk hy)⟩
    obtain ⟨ao8, cp8, k1, _, k3⟩ := hM.row hBr
    obtain ⟨g8, v8, rfl, ⟨n8, hn8, k4⟩, k5, _, _, _⟩ := k3 x p hp
    have Hcell : Hid (∀ w', Wr.grownBy w' none → ∀ (a : Addr) (u : Value), Wr.cell? a = some u → w'.cell? a = some u) := hide fun w' hg a u hu => hg.cell hu (by simp)
    have cm : Wr.cell? ⟨W.heap.size, 0, none⟩ = some (.pointer (some ⟨b, 0, none⟩)) := by rw [cellOf hI.bm 0]; rfl
    have cc : Wr.cell? ⟨W.heap.size + 1, 0, none⟩ = some (.int .u8 (c.toNat : Int)) := by rw [cellOf hI.bc 0]; rfl
    have hc0 : ∀ w', Wr.grownBy w' none → w'.cell? ⟨W.heap.size, 0, none⟩ = some (.pointer (some ⟨b, 0, none⟩)) := fun w' hg => unhide Hcell w' hg _ _ cm
    have hc1 : ∀ w', Wr.grownBy w' none → w'.cell? ⟨b, 0, none⟩ = some (.slice (some ⟨g8, 0, none⟩) S.length cp8) := fun w' hg => unhide Hcell w' hg _ _ k1
    have hc2 : ∀ w', Wr.grownBy w' none → w'.cell? ⟨g8, x * 3, none⟩ = some (.int .u64 (n8 : Int)) := fun w' hg => unhide Hcell w' hg _ _ k4
    have hc3 : ∀ w', Wr.grownBy w' none → w'.cell? ⟨W.heap.size + 1, 0, none⟩ = some (.int .u8 (c.toNat : Int)) := fun w' hg => unhide Hcell w' hg _ _ cc
    have hc4 : ∀ w', Wr.grownBy w' none → w'.cell? ⟨g8, x * 3 + 1, none⟩ = some (.int .i64 (p.nx : Int)) := fun w' hg => unhide Hcell w' hg _ _ k5
    have HI := hide (And.intro hI (And.intro hp (And.intro hBw (And.intro hc0 (And.intro hc1 (And.intro hc4 (And.intro hx3 (And.intro hx4 hWs))))))))
    have HC := hide (fun w' => phas hn8 c w')
    clear hI hp hBr hBw k1 k3 k4 k5 cm cc hc4 hx3 hx4 hn8 Hcell
    gi_wp2_with fail
    refine wpIn_region_quiet_rlit (F := Fence.wide) (C := fun w' => Wr.grownBy w' none) rfl (by kernel_rfl) (by kernel_rfl) (by kernel_rfl) (grown_drew' Wr none) ?_
    refine wpQuietIn_step (fun _ _ _ _ => trivial) (fun K hK => ?_)
    go_simp
    refine ⟨.pointer (some ⟨b, 0, none⟩), fun w' hw' => (by rw [hc0 w' hw']; exact ⟨rfl, rfl⟩), hK _ ?_⟩
    clear hK K
    repeat (refine wpQuietIn_step (fun _ _ _ _ => trivial) (fun K hK => ?_); go_simp; first | (refine hK _ ?_; clear hK K) | (refine ⟨_, fun _ _ => rfl, hK _ ?_⟩; clear hK K))
    refine wpQuietIn_step (fun _ _ _ _ => trivial) (fun K hK => ?_)
    go_simp
    refine ⟨.slice (some ⟨g8, 0, none⟩) S.length cp8, fun w' hw' => (by rw [hc1 w' hw']; exact ⟨rfl, rfl⟩), hK _ ?_⟩
    clear hK K
    repeat (refine wpQuietIn_step (fun _ _ _ _ => trivial) (fun K hK => ?_); go_simp; first | (refine hK _ ?_; clear hK K) | (refine ⟨_, fun _ _ => rfl, hK _ ?_⟩; clear hK K))
    refine wpQuietIn_step (fun _ _ _ _ => trivial) (fun K hK => ?_)
    go_simp
    refine ⟨.int .u64 (n8 : Int), fun w' hw' => (by rw [hc2 w' hw']; exact ⟨rfl, rfl⟩), hK _ ?_⟩
    clear hK K
    refine wpQuietIn_step (fun _ _ _ _ => trivial) (fun K hK => ?_)
    go_simp
    refine ⟨.int .u8 (c.toNat : Int), fun w' hw' => (by rw [hc3 w' hw']; exact ⟨rfl, rfl⟩), hK _ ?_⟩
    clear hK K
    refine wpQuietIn_step (fun _ _ _ _ => trivial) (fun K hK => ?_)
    go_simp
    refine ⟨.bool (p.set.contains c), fun w' hw' => ?_, hK _ ?_⟩
    · refine callsIn_wide.2 ((unhide HC w').mono ?_)
      rintro e w2 ⟨rfl, rfl⟩
      exact ⟨rfl, hw'⟩
    clear hK K
    have Hspec : Hid (p.set.contains c = true ↔ c ∈ p.set) := hide (by simp)
    generalize p.set.contains c = y at *
    refine wpQuietIn_nil ?_
    intro w1 hw1
    cases y with
    | false =>
      gi_wp2_with fail
      obtain ⟨hI, hp, hBw, hc0, hc1, hc4, hx3, hx4, hWs⟩ := unhide HI
      obtain ⟨q1, q2⟩ := hI.stab (N := Wr.heap.size) (by omega) (Fz.of_grown hw1 (fun k e => by cases e))
      refine ⟨⟨hw1.os, hw1.tape, hw1.output, hw1.size, fun k hk _ => hw1.block k hk (by simp), fun k hk => .inl ((q2 k).1 hk)⟩, v, N', {
        bn := q1.bn
        own := q1.own
        far := q1.far
        nil := q1.nil
        len := by have := q1.len; simp only [List.length_append, List.length_singleton]; omega
        pl := by simp only [List.length_append, List.length_singleton]; omega
        mem := fun z => ?_
        bm := q1.bm
        bc := q1.bc
        gr := q1.gr }⟩
      rw [hI.mem z]
      constructor
      · rintro ⟨s, q, hs, hq⟩
        exact ⟨s, q, List.mem_append_left _ hs, hq⟩
      · rintro ⟨s, q, hs, hq1, hq2, hq3⟩
        rcases List.mem_append.1 hs with hs | hs
        · exact ⟨s, q, hs, hq1, hq2, hq3⟩
        · rw [List.mem_singleton] at hs
          subst hs
          rw [hp] at hq1
          cases hq1
          exact absurd ((unhide Hspec).2 hq2) (by simp)
    | true =>
      obtain ⟨hI, hp, hBw, hc0', hc1', hc4, hx3, hx4, hWs⟩ := unhide HI
      obtain ⟨q1, q2⟩ := hI.stab (N := Wr.heap.size) (by omega) (Fz.of_grown hw1 (fun k e => by cases e))
      obtain ⟨vo, vc, rfl⟩ := own_slice q1.own
      have cn : w1.cell? ⟨W.heap.size + 2, 0, none⟩ = some (.slice vo N'.length vc) := by rw [cellOf q1.bn 0]; rfl
      have e0 := hc0 w1 hw1
      have e1 := hc1 w1 hw1
      have e4 := hc4 w1 hw1
      have hl8 : N'.length ≤ 2000 := by have := hI.len; omega
      have hB1 := hBw w1 hw1
      have hb2 : W.heap.size + 2 < w1.heap.size := heap_lt q1.bn
      have hown2 : (w1.alloc (.cells #[.int .i64 (p.nx : Int)] 3)).drew.ownsRow 0 3 1 (.slice vo N'.length vc) N'.length (nums N') := (q1.own.alloc _).drew
      have hlit : (w1.alloc (.cells #[.int .i64 (p.nx : Int)] 3)).drew.ownsRow 0 3 1 (.slice (some ⟨w1.heap.size, 0, none⟩) 1 1) 1 [.int .i64 (p.nx : Int)] := (World.ownsRow_lit w1 #[.int .i64 (p.nx : Int)] 1 (Nat.zero_le _) (by unfold maxLen; omega) rfl).drew
      obtain ⟨v3, w3, hrun, hown3, hg3, hat3⟩ := run_append_row (P := Tryz.prog) (t := 80) (ty := 80) Tryz.underlying80 hi1 hy0 hy1 hy2 rfl hown2 hlit (by intro y hy; rw [List.mem_singleton] at hy; subst hy; rfl) (by unfold maxLen; omega) (by omega)
      obtain ⟨vo3, vc3, rfl⟩ := own_slice hown3
      rw [app_veil] at hrun
      have hg13 : w1.grownBy w3 (Value.slice vo N'.length vc).ownBlock := ((World.grownBy_alloc w1 (.cells #[.int .i64 (p.nx : Int)] 3) _).trans (grown_drew' _ _)).trans hg3
      have hnr : some (W.heap.size + 2) ≠ (Value.slice vo N'.length vc).ownBlock := fun e => by have := q1.far _ e.symm; omega
      have hb3 : w3.heap[W.heap.size + 2]? = some (.cells #[.slice vo N'.length vc] 80 (0, 0)) := (hg13.block _ hb2 hnr).trans q1.bn
      have fz3 := frozenOf hb3 0
      have cn3 := cellOf hb3 0
      simp at cn3
      have H3 := hide (And.intro q1 (And.intro q2 (And.intro hown3 (And.intro hat3 (And.intro hg13 (And.intro hnr hb3))))))
      have cn2 : (w1.alloc (.cells #[.int .i64 (p.nx : Int)] 3)).drew.cell? ⟨W.heap.size + 2, 0, none⟩ = some (.slice vo N'.length vc) := by show (w1.alloc _).cell? _ = _; rw [World.cell?_alloc_past _ _ _ hb2]; exact cn
      clear hI hp hBw hc0' hc1' hc4 hx3 hx4 hWs q1 q2 hB1 hown2 hlit hown3 hg3 hat3 hg13 hnr hb3 hc0 hc1 hc2 hc3
      gi_wp2_with fail
      refine wpIn_mono (Q := fun e _ w' => e = .normal ∧ w' = w3.setCell ⟨W.heap.size + 2, 0, none⟩ (.slice vo3 (N'.length + 1) vc3)) ?_ ?_
      · clear hM hcl hfl hB hv0 hN0 h51 h52 h53 h54 h55 hg5 hB5 hv hv5
        gi_region_with fail
        all_goals exact ⟨rfl, rfl⟩
      rintro e a w' ⟨rfl, rfl⟩
      gi_wp2_with fail
      obtain ⟨hI, hp, hBw, hc0', hc1', hc4, hx3, hx4, hWs⟩ := unhide HI
      obtain ⟨q1, q2, hown3, hat3, hg13, hnr, hb3⟩ := unhide H3
      have hb4 : (w3.setCell ⟨W.heap.size + 2, 0, none⟩ (.slice vo3 (N'.length + 1) vc3)).heap[W.heap.size + 2]? = some (.cells #[.slice vo3 (N'.length + 1) vc3] 80 (0, 0)) := by
        have := heap_set hb3 0 (.slice vo3 (N'.length + 1) vc3)
        simpa using this
      have far : ∀ k u, k ≠ W.heap.size + 2 → (w3.setCell ⟨W.heap.size + 2, 0, none⟩ u).heap[k]? = w3.heap[k]? := fun k u hk => Below.heap_setCell _ _ _ _ hk
      have hsz4 : ∀ u, (w3.setCell ⟨W.heap.size + 2, 0, none⟩ u).heap.size = w3.heap.size := fun u => by simp [World.setCell]
      have hob3 : ∀ k, (Value.slice vo3 (N'.length + 1) vc3).ownBlock = some k → (Value.slice vo N'.length vc).ownBlock = some k ∨ Wr.heap.size ≤ k := fun k hk => by
        rcases hat3 with h | h
        · exact .inl (h.symm.trans hk)
        · rw [hk] at h
          injection h with h
          have h2 : ((w1.alloc (.cells #[.int .i64 (p.nx : Int)] 3)).drew).heap.size = w1.heap.size + 1 := by simp [drew_heap]
          have := hw1.size
          exact .inr (by omega)
      have hfar3 : ∀ k, (Value.slice vo3 (N'.length + 1) vc3).ownBlock = some k → W.heap.size + 7 ≤ k := fun k hk => by
        rcases hob3 k hk with h | h
        · exact q1.far k h
        · omega
      have hblk : ∀ k, k < w1.heap.size → k ≠ W.heap.size + 2 → (Value.slice vo N'.length vc).ownBlock ≠ some k → (w3.setCell ⟨W.heap.size + 2, 0, none⟩ (.slice vo3 (N'.length + 1) vc3)).heap[k]? = w1.heap[k]? := fun k hk h1 h2 => (far k _ h1).trans (hg13.block k hk (Ne.symm h2))
      have hSt : StI W b S c (pre ++ [x]) (w3.setCell ⟨W.heap.size + 2, 0, none⟩ (.slice vo3 (N'.length + 1) vc3)) (.slice vo3 (N'.length + 1) vc3) (N' ++ [p.nx]) := {
        bn := hb4
        own := by
          have h1 : nums (N' ++ [p.nx]) = nums N' ++ [.int .i64 (p.nx : Int)] := by simp [nums]
          rw [h1, List.length_append, List.length_singleton]
          exact own_same hown3 (fun k e => far k _ (fun e' => by have := hfar3 k e; omega))
        far := hfar3
        nil := fun h => by simp at h
        len := by have := q1.len; simp only [List.length_append, List.length_singleton]; omega
        pl := by simp only [List.length_append, List.length_singleton]; omega
        mem := fun z => by
          rw [List.mem_append, List.mem_singleton, q1.mem z]
          constructor
          · rintro (⟨s, q, hs, hq⟩ | rfl)
            · exact ⟨s, q, List.mem_append_left _ hs, hq⟩
            · exact ⟨x, p, List.mem_append_right _ (List.mem_singleton.2 rfl), hp, (unhide Hspec).1 (by simp), rfl⟩
          · rintro ⟨s, q, hs, hq1, hq2, hq3⟩
            rcases List.mem_append.1 hs with hs | hs
            · exact .inl ⟨s, q, hs, hq1, hq2, hq3⟩
            · rw [List.mem_singleton] at hs
              subst hs
              rw [hp] at hq1
              cases hq1
              exact .inr hq3
        bm := (hblk _ (heap_lt q1.bm) (by omega) (fun e => by have := q1.far _ e; omega)).trans q1.bm
        bc := (hblk _ (heap_lt q1.bc) (by omega) (fun e => by have := q1.far _ e; omega)).trans q1.bc
        gr := ⟨hg13.os.trans q1.gr.os, hg13.tape.trans q1.gr.tape, hg13.output.trans q1.gr.output, by rw [hsz4]; exact Nat.le_trans q1.gr.size hg13.size, fun k hk hn => (hblk k (Nat.lt_of_lt_of_le hk q1.gr.size) (by omega) (fun e => by have := q1.far _ e; omega)).trans (q1.gr.block k hk hn)⟩ }
      refine ⟨⟨hg13.os.trans hw1.os, hg13.tape.trans hw1.tape, hg13.output.trans hw1.output, by rw [hsz4]; exact Nat.le_trans hw1.size hg13.size, fun k hk hn => ?_, fun k hk => ?_⟩, _, _, hSt⟩
      · rw [hI.fp] at hn
        exact (hblk k (Nat.lt_of_lt_of_le hk hw1.size) (fun e => hn (.inl e)) (fun e => hn (.inr e))).trans (hw1.block k hk (by simp))
      · rw [hSt.fp] at hk
        rw [hI.fp]
        rcases hk with hk | hk
        · exact .inl (.inl hk)
        · rcases hob3 k hk with h | h
          · exact .inl (.inr h)
          · exact .inr h
  case done =>
    rintro D xs W9 hD hS9 ⟨v, N', hI⟩ hK
    obtain ⟨vo, vc, rfl⟩ := own_slice hI.own
    have cn : W9.cell? ⟨W.heap.size + 2, 0, none⟩ = some (.slice vo N'.length vc) := by rw [cellOf hI.bn 0]; rfl
    have HI := hide (And.intro hI (And.intro hS9 hK))
    clear hI hS9
    gi_wp2_with fail
    obtain ⟨hI, hS9, _⟩ := unhide HI
    refine ⟨by simp, .inl ⟨_, _, rfl, run_takeDeferred hK, ?_⟩⟩
    refine ⟨_, results_tmp rfl _ _ _, ?_⟩
    have hg := grownBy_putObj' W9 D (.deferred none)
    refine ⟨_, N', rfl, own_same hI.own (fun k e => World.putObj_heap_other (fun e' => by have := hI.far k e; omega)), hI.nil, fun z => ?_, Nat.le_trans hI.len hI.pl, ?_, fun k e => by have := hI.far k e; omega⟩
    · rw [hI.mem z]
      constructor
      · rintro ⟨s, q, hs, hq⟩
        obtain ⟨a, ha, hr⟩ := (hS9 s).1 hs
        exact ⟨a, ha, s, q, hr, hq⟩
      · rintro ⟨a, ha, s, q, hr, hq⟩
        exact ⟨s, q, (hS9 s).2 ⟨a, ha, hr⟩, hq⟩
    · refine ⟨hI.gr.os, hI.gr.tape, hI.gr.output, by simp [World.putObj]; exact hI.gr.size, fun k hk hn => ?_⟩
      exact (World.putObj_heap_other (by omega)).trans (hI.gr.block k hk hn)
  case stop => rintro D pre W _ _ h; exact h.elim

end Go.Proofs.YtlljggefbngkeaaGreatDoor
