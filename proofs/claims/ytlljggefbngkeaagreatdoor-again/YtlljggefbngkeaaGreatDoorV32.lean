import Derived.Test.YtlljggefbngkeaaGreatDoorV31
import Derived.Test.YtlljggefbngkeaaGreatDoorV18
import Derived.Test.YtlljggefbngkeaaGreatDoorV11
namespace Go.Proofs.YtlljggefbngkeaaGreatDoor
open Go.RowKit Go.Shelf

/-- the error of a lens that cannot be read, and its place -/
def ErrOut (s : ByteArray) (c : Int) (p : Nat) : Prop :=
  (120 < s.size ∧ c = 1 ∧ p = 0) ∨ (s.size ≤ 120 ∧ match gRows s (6 * s.size + 5) 0 with
    | .err q => c = 2 ∧ p = q
    | .ok x j => (j < s.size ∧ c = 2 ∧ p = j) ∨ (j = s.size ∧ FirstW (dfltsL x.1) (some p) ∧ c = 3))
/-- the tree of a lens that can be read -/
def TreeOf (s : ByteArray) (t : LT) : Prop := s.size ≤ 120 ∧ ∃ x, gRows s (6 * s.size + 5) 0 = .ok x s.size ∧ FirstW (dfltsL x.1) none ∧ t = joinAlt x.1 x.2

/-- what the program's read answers, in these words -/
def GR2 (s : ByteArray) (w : World) (e : Ending) (w' : World) : Prop :=
  w.grownBy w' none ∧ ((∃ c p, ErrOut s c p ∧ (c = 1 ∨ c = 2 ∨ c = 3) ∧ e = .returned (.tuple #[.pointer none, .int .i64 c, .int .i64 (p : Int)])) ∨
    (∃ t g, TreeOf s t ∧ LR s w' (fun k => k < w.heap.size) t g ∧ e = .returned (.tuple #[.pointer (some ⟨g, 0, none⟩), .int .i64 0, .int .i64 0])))

theorem gread2 (hH : HoldsSaid) (s : ByteArray) (w : World) (hm : s.size ≤ maxLen) :
    Calls Tryz.prog 41 #[.string s] w fun e w' => GR2 s w e w' := by
  rcases Nat.lt_or_ge 120 s.size with hs | hs
  · refine (gread_long s w hs hm).mono ?_
    rintro e w1 ⟨rfl, rfl⟩
    exact ⟨World.grownBy.refl _ _, .inl ⟨1, 0, .inl ⟨hs, rfl, rfl⟩, .inl rfl, rfl⟩⟩
  · refine (gread_short hH s w hs).mono ?_
    rintro e w1 ⟨hg, hP⟩
    refine ⟨hg, ?_⟩
    have hE : ∀ (c : Int) (p : Nat), (match gRows s (6 * s.size + 5) 0 with
      | .err q => c = 2 ∧ p = q
      | .ok x j => (j < s.size ∧ c = 2 ∧ p = j) ∨ (j = s.size ∧ FirstW (dfltsL x.1) (some p) ∧ c = 3)) → ErrOut s c p := fun c p h => .inr ⟨hs, h⟩
    have hT : ∀ t, (∃ x, gRows s (6 * s.size + 5) 0 = .ok x s.size ∧ FirstW (dfltsL x.1) none ∧ t = joinAlt x.1 x.2) → TreeOf s t := fun t h => ⟨hs, h⟩
    generalize gRows s (6 * s.size + 5) 0 = r at *
    cases r with
    | err p => exact .inl ⟨2, p, hE _ _ ⟨rfl, rfl⟩, .inr (.inl rfl), hP⟩
    | ok x j =>
      rcases hP with ⟨h1, h2⟩ | ⟨rfl, o, hF, h2⟩
      · exact .inl ⟨2, j, hE _ _ (.inl ⟨h1, rfl, rfl⟩), .inr (.inl rfl), h2⟩
      · cases o with
        | some a => exact .inl ⟨3, a, hE _ _ (.inr ⟨rfl, hF, rfl⟩), .inr (.inr rfl), h2⟩
        | none =>
          obtain ⟨g, h3, h4⟩ := h2
          exact .inr ⟨_, g, hT _ ⟨x, rfl, hF, rfl⟩, h4, h3⟩

/-- what examine answers -/
def ExPost (s : ByteArray) (w : World) (e : Ending) (w' : World) : Prop :=
  w.grownBy w' none ∧ ((∃ c p, ErrOut s c p ∧ (c = 1 ∨ c = 2 ∨ c = 3) ∧ e = .returned (.tuple #[.pointer none, .int .i64 c, .int .i64 (p : Int), .string ⟨#[]⟩])) ∨
    (∃ t, TreeOf s t ∧ ((∃ t' n p u, (t', n) ∈ joints_ t ∧ (placesOf t')[n]? = some p ∧ JWit t' n u ∧ u.length ≤ 100000000 ∧ e = .returned (.tuple #[.pointer none, .int .i64 4, .int .i64 (p : Int), .string (txt u)])) ∨
      ((∀ x, x ∈ joints_ t → ∀ u, ¬ JWit x.1 x.2 u) ∧ ∃ g, LR s w' (fun k => k < w.heap.size) t g ∧ e = .returned (.tuple #[.pointer (some ⟨g, 0, none⟩), .int .i64 0, .int .i64 0, .string ⟨#[]⟩])))))

theorem results_tmp4 {fn : Func} {t u v x : Tmp} (h : fn.results = #[.tmp t, .tmp u, .tmp v, .tmp x]) (tmps : Array Value) (P : Program) (w : World) :
    (results fn tmps).run P w = .ok (.tuple #[tmps.getD t undef, tmps.getD u undef, tmps.getD v undef, tmps.getD x undef]) w := by
  simp [results, h, go_sem]

set_option maxRecDepth 100000 in
set_option maxHeartbeats 1600000 in
theorem gexamine (hH : HoldsSaid) (hFG : ∀ s t, TreeOf s t → FG t) (s : ByteArray) (w : World) (hm : s.size ≤ maxLen) (hTab : Tab w) :
    Calls Tryz.prog 32 #[.string s] w fun e w' => ExPost s w e w' := by
  have HR := hide (gread2 hH s w hm)
  go_enter Tryz.func32, Tryz.ntmps32
  go_wp2_with fail
  refine (unhide HR).mono ?_
  rintro e w1 ⟨hg1, (⟨c, p, h1, hc, rfl⟩ | ⟨t, g, h1, h2, rfl⟩)⟩
  · have H1 := hide (And.intro h1 (And.intro hc hg1))
    have hd : (c == 0) = false := by rcases hc with rfl | rfl | rfl <;> rfl
    clear h1 hg1 hc
    go_wp2
    ((try simp only [Exit.inBlock, Exit.then]); refine bodyPost_ret (results_tmp4 rfl _ _ _) rfl ?_)
    exact ⟨(unhide H1).2.2, .inl ⟨c, p, (unhide H1).1, (unhide H1).2.1, rfl⟩⟩
  · have HF := hide (firstWrong h2 (hFG s t h1) (fun k hk => by have := hg1.size; omega) (hTab.grown hg1))
    have H1 := hide (And.intro h1 (And.intro h2 hg1))
    clear h1 h2 hg1
    go_wp2_with fail
    refine (unhide HF).mono ?_
    rintro e w2 ⟨(⟨t', n, p, u, q1, q2, q3, q4, rfl⟩ | ⟨rfl, q⟩), hg2⟩
    · have H2 := hide (And.intro q1 (And.intro q2 (And.intro q3 (And.intro q4 hg2))))
      clear q1 q2 q3 q4 hg2
      go_wp2
      ((try simp only [Exit.inBlock, Exit.then]); refine bodyPost_ret (results_tmp4 rfl _ _ _) rfl ?_)
      obtain ⟨h1, h2, hg1⟩ := unhide H1
      obtain ⟨q1, q2, q3, q4, hg2⟩ := unhide H2
      exact ⟨hg1.trans hg2, .inr ⟨t, h1, .inl ⟨t', n, p, u, q1, q2, q3, q4, rfl⟩⟩⟩
    · have H2 := hide (And.intro q hg2)
      clear q hg2
      go_wp2
      ((try simp only [Exit.inBlock, Exit.then]); refine bodyPost_ret (results_tmp4 rfl _ _ _) rfl ?_)
      obtain ⟨h1, h2, hg1⟩ := unhide H1
      obtain ⟨q, hg2⟩ := unhide H2
      exact ⟨hg1.trans hg2, .inr ⟨t, h1, .inr ⟨q, g, LR.kept (fun k hk _ => hg2.block k hk (by simp)) h2, rfl⟩⟩⟩

/-- what Check answers -/
def ChPost (s : ByteArray) (w : World) (e : Ending) (w' : World) : Prop :=
  w.grownBy w' none ∧ ((∃ c p, ErrOut s c p ∧ (c = 1 ∨ c = 2 ∨ c = 3) ∧ e = .returned (.tuple #[.int .i64 c, .int .i64 (p : Int), .string ⟨#[]⟩])) ∨
    (∃ t, TreeOf s t ∧ ((∃ t' n p u, (t', n) ∈ joints_ t ∧ (placesOf t')[n]? = some p ∧ JWit t' n u ∧ u.length ≤ 100000000 ∧ e = .returned (.tuple #[.int .i64 4, .int .i64 (p : Int), .string (txt u)])) ∨
      ((∀ x, x ∈ joints_ t → ∀ u, ¬ JWit x.1 x.2 u) ∧ e = .returned (.tuple #[.int .i64 0, .int .i64 0, .string ⟨#[]⟩])))))

set_option maxRecDepth 100000 in
set_option maxHeartbeats 1600000 in
theorem gcheck (hH : HoldsSaid) (hFG : ∀ s t, TreeOf s t → FG t) (s : ByteArray) (w : World) (hm : s.size ≤ maxLen) (hTab : Tab w) :
    Calls Tryz.prog 14 #[.string s] w fun e w' => ChPost s w e w' := by
  have HR := hide (gexamine hH hFG s w hm hTab)
  go_enter Tryz.func14, Tryz.ntmps14
  go_wp2_with fail
  refine (unhide HR).mono ?_
  rintro e w1 ⟨hg1, (⟨c, p, h1, hc, rfl⟩ | ⟨t, h1, (⟨t', n, p, u, q1, q2, q3, q4, rfl⟩ | ⟨q, g, _, rfl⟩)⟩)⟩
  · have H1 := hide (And.intro h1 (And.intro hc hg1))
    clear h1 hg1 hc
    go_wp2
    go_ret3
    exact ⟨(unhide H1).2.2, .inl ⟨c, p, (unhide H1).1, (unhide H1).2.1, rfl⟩⟩
  · have H1 := hide (And.intro h1 (And.intro q1 (And.intro q2 (And.intro q3 (And.intro q4 hg1)))))
    clear h1 q1 q2 q3 q4 hg1
    go_wp2
    go_ret3
    obtain ⟨h1, q1, q2, q3, q4, hg1⟩ := unhide H1
    exact ⟨hg1, .inr ⟨t, h1, .inl ⟨t', n, p, u, q1, q2, q3, q4, rfl⟩⟩⟩
  · have H1 := hide (And.intro h1 (And.intro q hg1))
    clear h1 q hg1
    go_wp2
    go_ret3
    exact ⟨(unhide H1).2.2, .inr ⟨t, (unhide H1).1, .inr ⟨(unhide H1).2.1, rfl⟩⟩⟩

end Go.Proofs.YtlljggefbngkeaaGreatDoor

namespace Go.Proofs.YtlljggefbngkeaaGreatDoor
open Go.RowKit Go.Shelf

theorem signsN_all (s : ByteArray) : ∀ n i, i + n ≤ s.size → ∀ c, c ∈ sub s.data.toList i (signsN s n i) → signI (c.toNat : Int) = true
  | 0, i, _, c, h => by rw [signsN, sub_self] at h; cases h
  | n + 1, i, hi, c, h => by
    rw [signsN] at h
    split at h
    · rename_i hs
      have hb := signsN_bd s n (i + 1)
      have hlt : i < s.data.toList.length := by have : s.data.toList.length = s.size := rfl; omega
      rw [← sub_app _ i (i + 1) _ (by omega) hb.1, List.mem_append] at h
      rcases h with h | h
      · rw [sub_at _ i _ (List.getElem?_eq_getElem hlt), List.mem_singleton] at h
        subst h
        rw [pk, dif_pos (by omega)] at hs
        exact hs
      · exact signsN_all s n (i + 1) (by omega) c h
    · rw [sub_self] at h; cases h

mutual
theorem subs_trans : ∀ (t u x : LT), x ∈ subs u → u ∈ subs t → x ∈ subs t
  | .same l i j, u, x, hx, h => by rw [subs, List.mem_singleton] at h; subst h; exact hx
  | .fixed l i j v d a, u, x, hx, h => by rw [subs, List.mem_singleton] at h; subst h; exact hx
  | .swap at_ a b, u, x, hx, h => by
    rw [subs, List.mem_cons, List.mem_append] at h
    rcases h with rfl | h | h
    · exact hx
    · rw [subs]; exact List.mem_cons_of_mem _ (List.mem_append_left _ (subs_trans a u x hx h))
    · rw [subs]; exact List.mem_cons_of_mem _ (List.mem_append_right _ (subs_trans b u x hx h))
  | .group a, u, x, hx, h => by
    rw [subs, List.mem_cons] at h
    rcases h with rfl | h
    · exact hx
    · rw [subs]; exact List.mem_cons_of_mem _ (subs_trans a u x hx h)
  | .many at_ a, u, x, hx, h => by
    rw [subs, List.mem_cons] at h
    rcases h with rfl | h
    · exact hx
    · rw [subs]; exact List.mem_cons_of_mem _ (subs_trans a u x hx h)
  | .row l ps, u, x, hx, h => by
    rw [subs, List.mem_cons] at h
    rcases h with rfl | h
    · exact hx
    · rw [subs]; exact List.mem_cons_of_mem _ (subsL_trans l u x hx h)
  | .choice l ps, u, x, hx, h => by
    rw [subs, List.mem_cons] at h
    rcases h with rfl | h
    · exact hx
    · rw [subs]; exact List.mem_cons_of_mem _ (subsL_trans l u x hx h)
theorem subsL_trans : ∀ (l : List LT) (u x : LT), x ∈ subs u → u ∈ subsL l → x ∈ subsL l
  | [], u, x, hx, h => by rw [subsL] at h; cases h
  | t :: l, u, x, hx, h => by
    rw [subsL, List.mem_append] at h
    rw [subsL, List.mem_append]
    rcases h with h | h
    · exact .inl (subs_trans t u x hx h)
    · exact .inr (subsL_trans l u x hx h)
end

/-- what is asked of each lens -/
def nOk : LT → Prop
  | .same l _ _ => okRepL l
  | .fixed l _ _ v _ _ => okRepL l ∧ ∀ c, c ∈ v → signI (c.toNat : Int) = true
  | .row l ps => ps.length + 1 = l.length
  | .choice l ps => ps.length + 1 = l.length
  | _ => True
def NOk (t : LT) : Prop := ∀ u, u ∈ subs t → nOk u
theorem NOk.part {t u : LT} (h : NOk t) (hu : u ∈ parts t) : NOk u := fun x hx => h x (by rw [subs_eq]; exact List.mem_cons_of_mem _ (subsL_mem _ u x hu hx))
theorem NOk.self {t : LT} (h : NOk t) : nOk t := h t (by rw [subs_eq]; exact List.mem_cons_self)
theorem NOk.of {t : LT} (h0 : nOk t) (h : ∀ u, u ∈ parts t → NOk u) : NOk t := fun x hx => by
  rw [subs_eq] at hx
  rcases List.mem_cons.1 hx with rfl | hx
  · exact h0
  · obtain ⟨u, h1, h2⟩ := subsL_of _ _ hx
    exact h u h1 x h2
theorem NOk.joinRow {l : List LT} {ps : List Nat} (h : ∀ u, u ∈ l → NOk u) (hl : ps.length + 1 = l.length) : NOk (joinRow l ps) := by
  match l, h with
  | [], h => cases hl
  | [t], h => exact h t List.mem_cons_self
  | t :: u :: l, h => exact NOk.of hl (fun u hu => h u hu)
theorem NOk.joinAlt {l : List LT} {ps : List Nat} (h : ∀ u, u ∈ l → NOk u) (hl : ps.length + 1 = l.length) : NOk (joinAlt l ps) := by
  match l, h with
  | [], h => cases hl
  | [t], h => exact h t List.mem_cons_self
  | t :: u :: l, h => exact NOk.of hl (fun u hu => h u hu)

mutual
/-- how large a lens is -/
def lsz : LT → Nat
  | .same l _ _ => stSizeL l + 1
  | .fixed l _ _ v _ _ => stSizeL l + v.length + 1
  | .swap _ a b => lsz a + lsz b + 1
  | .group a => lsz a + 1
  | .many _ a => lsz a + 1
  | .row l _ => lszL l + 1
  | .choice l _ => lszL l + 1
def lszL : List LT → Nat
  | [] => 0
  | t :: l => lsz t + lszL l
end
theorem lsz_joinRow (l : List LT) (ps : List Nat) : lsz (joinRow l ps) ≤ lszL l + 1 := by
  match l with
  | [] => rw [joinRow, lsz]; exact Nat.le_refl _; intro t h; cases h
  | [t] => rw [joinRow, lszL, lszL]; omega
  | t :: u :: l => rw [joinRow, lsz]; exact Nat.le_refl _; intro t h; cases h
theorem lsz_joinAlt (l : List LT) (ps : List Nat) : lsz (joinAlt l ps) ≤ lszL l + 1 := by
  match l with
  | [] => rw [joinAlt, lsz]; exact Nat.le_refl _; intro t h; cases h
  | [t] => rw [joinAlt, lszL, lszL]; omega
  | t :: u :: l => rw [joinAlt, lsz]; exact Nat.le_refl _; intro t h; cases h
theorem lsz_parts (t : LT) : lszL (parts t) + 1 ≤ lsz t := by
  cases t <;> simp only [parts, lsz, lszL] <;> omega
theorem lszL_mem : ∀ (l : List LT) (t : LT), t ∈ l → lsz t ≤ lszL l
  | x :: l, t, h => by
    rw [lszL]
    rcases List.mem_cons.1 h with rfl | h
    · omega
    · have := lszL_mem l t h; omega
mutual
theorem lsz_subs : ∀ (t u : LT), u ∈ subs t → lsz u ≤ lsz t
  | .same l i j, u, h => by rw [subs, List.mem_singleton] at h; subst h; exact Nat.le_refl _
  | .fixed l i j v d a, u, h => by rw [subs, List.mem_singleton] at h; subst h; exact Nat.le_refl _
  | .swap at_ a b, u, h => by
    rw [subs, List.mem_cons, List.mem_append] at h
    rcases h with rfl | h | h
    · exact Nat.le_refl _
    · have := lsz_subs a u h; rw [lsz]; omega
    · have := lsz_subs b u h; rw [lsz]; omega
  | .group a, u, h => by
    rw [subs, List.mem_cons] at h
    rcases h with rfl | h
    · exact Nat.le_refl _
    · have := lsz_subs a u h; rw [lsz]; omega
  | .many at_ a, u, h => by
    rw [subs, List.mem_cons] at h
    rcases h with rfl | h
    · exact Nat.le_refl _
    · have := lsz_subs a u h; rw [lsz]; omega
  | .row l ps, u, h => by
    rw [subs, List.mem_cons] at h
    rcases h with rfl | h
    · exact Nat.le_refl _
    · have := lszL_subs l u h; rw [lsz]; omega
  | .choice l ps, u, h => by
    rw [subs, List.mem_cons] at h
    rcases h with rfl | h
    · exact Nat.le_refl _
    · have := lszL_subs l u h; rw [lsz]; omega
theorem lszL_subs : ∀ (l : List LT) (u : LT), u ∈ subsL l → lsz u ≤ lszL l
  | [], u, h => by rw [subsL] at h; cases h
  | t :: l, u, h => by
    rw [subsL, List.mem_append] at h
    rw [lszL]
    rcases h with h | h
    · have := lsz_subs t u h; omega
    · have := lszL_subs l u h; omega
end
theorem lsz_pos (t : LT) : 1 ≤ lsz t := by cases t <;> rw [lsz] <;> omega
theorem lszL_len : ∀ l : List LT, l.length ≤ lszL l
  | [] => by simp
  | t :: l => by rw [lszL, List.length_cons]; have := lsz_pos t; have := lszL_len l; omega

theorem stSizeL_chrs : ∀ v : List UInt8, stSizeL (v.map fun c => PT.chr [c]) = v.length
  | [] => by rw [List.map_nil, stSizeL]; rfl
  | c :: v => by rw [List.map_cons, stSizeL, stSize, stSizeL_chrs v, List.length_cons]; omega
mutual
theorem sideT_size (v : Bool) : ∀ t, stSize (sideT v t) ≤ lsz t
  | .same l i j => by rw [sideT, lsz]; have := nf_size (.alt l); rw [stSize] at this; exact this
  | .fixed l i j vw d a => by
    rw [sideT, lsz]
    split
    · have := pSeq_size (vw.map fun c => PT.chr [c]); rw [stSizeL_chrs] at this; omega
    · have := nf_size (.alt l); rw [stSize] at this; omega
  | .swap at_ a b => by
    rw [sideT, lsz]
    have h1 := sideT_size v a
    have h2 := sideT_size v b
    split
    · have := pSeq_size [sideT v b, sideT v a]; simp only [stSizeL] at this; omega
    · have := pSeq_size [sideT v a, sideT v b]; simp only [stSizeL] at this; omega
  | .group a => by rw [sideT, lsz]; have := sideT_size v a; omega
  | .many at_ a => by rw [sideT, lsz, stSize]; have := sideT_size v a; omega
  | .row l ps => by rw [sideT, lsz]; have := pSeq_size (sideTL v l); have := sideTL_size v l; omega
  | .choice l ps => by rw [sideT, lsz]; have := pAlt_size (sideTL v l); have := sideTL_size v l; omega
theorem sideTL_size (v : Bool) : ∀ l, stSizeL (sideTL v l) ≤ lszL l
  | [] => by rw [sideTL, stSizeL]; omega
  | t :: l => by rw [sideTL, stSizeL, lszL]; have := sideT_size v t; have := sideTL_size v l; omega
end

theorem okRepL_chrs : ∀ v : List UInt8, okRepL (v.map fun c => PT.chr [c])
  | [] => by rw [List.map_nil, okRepL]; trivial
  | c :: v => by rw [List.map_cons, okRepL, okRep]; exact ⟨trivial, okRepL_chrs v⟩
mutual
theorem sideT_ok (v : Bool) : ∀ t, NOk t → okRep (sideT v t)
  | .same l i j, h => by rw [sideT]; exact nf_ok _ (by rw [okRep]; exact h.self)
  | .fixed l i j vw d a, h => by
    rw [sideT]
    split
    · exact pSeq_ok (okRepL_chrs vw)
    · exact nf_ok _ (by rw [okRep]; exact h.self.1)
  | .swap at_ a b, h => by
    rw [sideT]
    have h1 := sideT_ok v a (h.part (by simp [parts]))
    have h2 := sideT_ok v b (h.part (by simp [parts]))
    split
    · exact pSeq_ok (by simp only [okRepL]; exact ⟨h2, h1, trivial⟩)
    · exact pSeq_ok (by simp only [okRepL]; exact ⟨h1, h2, trivial⟩)
  | .group a, h => by rw [sideT]; exact sideT_ok v a (h.part (by simp [parts]))
  | .many at_ a, h => by rw [sideT, okRep]; exact ⟨.inl rfl, sideT_ok v a (h.part (by simp [parts]))⟩
  | .row l ps, h => by rw [sideT]; exact pSeq_ok (sideTL_ok v l (fun u hu => h.part hu))
  | .choice l ps, h => by rw [sideT]; exact pAlt_ok (sideTL_ok v l (fun u hu => h.part hu))
theorem sideTL_ok (v : Bool) : ∀ l, (∀ u, u ∈ l → NOk u) → okRepL (sideTL v l)
  | [], _ => by rw [sideTL, okRepL]; trivial
  | t :: l, h => by rw [sideTL, okRepL]; exact ⟨sideT_ok v t (h t List.mem_cons_self), sideTL_ok v l (fun u hu => h u (List.mem_cons_of_mem _ hu))⟩
end

theorem sideP_size (v : Bool) (t : LT) : stSizeL (sideP v t) ≤ lszL (parts t) := by
  unfold sideP
  split
  · rename_i a b
    have h1 := sideT_size v a
    have h2 := sideT_size v b
    split <;> simp only [stSizeL, parts, lszL] <;> omega
  · exact sideTL_size v _
theorem sideP_ok (v : Bool) (t : LT) (h : NOk t) : okRepL (sideP v t) := by
  unfold sideP
  split
  · rename_i a b
    have h1 := sideT_ok v a (h.part (by simp [parts]))
    have h2 := sideT_ok v b (h.part (by simp [parts]))
    split <;> simp only [okRepL] <;> simp [h1, h2]
  · exact sideTL_ok v _ (fun u hu => h.part hu)
theorem stSizeL_at : ∀ (l : List PT) (n : Nat) (t : PT), l[n]? = some t → stSize t ≤ stSizeL l
  | x :: l, 0, t, h => by simp at h; subst h; rw [stSizeL]; omega
  | x :: l, n + 1, t, h => by rw [stSizeL]; have := stSizeL_at l n t (by simpa using h); omega
theorem okRepL_take : ∀ (l : List PT) (n : Nat), okRepL l → okRepL (l.take n)
  | [], n, h => by simpa using h
  | t :: l, 0, h => by rw [List.take_zero, okRepL]; trivial
  | t :: l, n + 1, h => by rw [okRepL] at h; rw [List.take_succ_cons, okRepL]; exact ⟨h.1, okRepL_take l n h.2⟩
theorem okRepL_at : ∀ (l : List PT) (n : Nat) (t : PT), okRepL l → l[n]? = some t → okRep t
  | x :: l, 0, t, h, e => by simp at e; subst e; rw [okRepL] at h; exact h.1
  | x :: l, n + 1, t, h, e => by rw [okRepL] at h; exact okRepL_at l n t h.2 (by simpa using e)

theorem twB_ok {v : Bool} {t : LT} {n : Nat} (h : NOk t) (hz : lsz t ≤ 400) : okRep (twB v t n) ∧ stSize (twB v t n) ≤ 1000 := by
  unfold twB
  have h1 := sideP_size v t
  have h2 := lsz_parts t
  cases e : (sideP v t)[n + 1]? with
  | none => refine ⟨?_, ?_⟩ <;> simp [okRep, okRepL, stSize, stSizeL]
  | some x => exact ⟨okRepL_at _ _ _ (sideP_ok v t h) e, by have := stSizeL_at _ _ _ e; simp only [Option.getD_some]; omega⟩

theorem jok_of {t : LT} {n : Nat} (h : NOk t) (hz : lsz t ≤ 400) (hn : nbOf t n) : JOk t n ∧ n < (placesOf t).length := by
  have h1 := fun v => sideP_size v t
  have h2 := lsz_parts t
  refine ⟨⟨?_, fun v => ?_, ?_⟩, ?_⟩
  · cases t <;> exact hn
  · have ha : okRep (twA v t n) := pSeq_ok (okRepL_take _ _ (sideP_ok v t h))
    have hb := twB_ok (v := v) (n := n) h hz
    have hc : stSize (twA v t n) ≤ 1000 := by
      have := pSeq_size ((sideP v t).take (n + 1))
      have := stSizeL_take (sideP v t) (n + 1)
      have := h1 v
      show stSize (pSeq _) ≤ 1000
      omega
    cases t with
    | many at_ a =>
      refine ⟨sideT_ok v a (h.part (by simp [parts])), ?_⟩
      have := sideT_size v a
      rw [lsz] at hz
      omega
    | _ => exact ⟨ha, hb.1, hc, hb.2⟩
  · refine ⟨pAlt_ok (okRepL_take _ _ (sideP_ok false t h)), ?_⟩
    have := pAlt_size ((sideP false t).take (n + 1))
    have := stSizeL_take (sideP false t) (n + 1)
    have := h1 false
    show stSize (pAlt _) ≤ 1000
    omega
  · have h3 := h.self
    cases t with
    | same l i j => simp [nbOf, parts] at hn
    | fixed l i j v d a => simp [nbOf, parts] at hn
    | swap at_ a b => simp [nbOf, parts] at hn; simp [placesOf]; omega
    | group a => simp [nbOf, parts] at hn
    | many at_ a => simp [nbOf] at hn; simp [placesOf, hn]
    | row l ps => simp only [nbOf, parts] at hn; simp only [nOk] at h3; simp only [placesOf]; omega
    | choice l ps => simp only [nbOf, parts] at hn; simp only [nOk] at h3; simp only [placesOf]; omega

theorem FG.of {t : LT} (h : NOk t) (hz : lsz t ≤ 400) : FG t := by
  refine ⟨fun u hu => ?_, fun u hu n hn => jok_of (fun x hx => ?_) (Nat.le_trans (lsz_subs t u hu) hz) hn⟩
  · have h1 := h u hu
    have h2 := lsz_subs t u hu
    have h3 := lsz_parts u
    have h4 := lszL_len (parts u)
    cases u with
    | fixed l i j v d a => rw [lsz] at h2; exact ⟨h1.2, by omega⟩
    | _ => simp only [vOk]; omega
  · exact h x (subs_trans t u x hx hu)

theorem skipB_le2 (s : ByteArray) (i : Nat) : i ≤ skipB s i := (skipN_bd s _ i).1

theorem gQuoted_wf {s : ByteArray} {i : Nat} {v : List UInt8} {j : Nat} (h : gQuoted s i = .ok v j) : (∀ c, c ∈ v → signI (c.toNat : Int) = true) ∧ i + v.length + 2 = j ∧ j ≤ s.size := by
  unfold gQuoted at h
  split at h
  · rename_i h1
    split at h
    · rename_i h2
      cases h
      have a1 := pk_lt (s := s) (i := i) (by rw [h1]; decide)
      have a2 := pk_lt (s := s) (i := signsE s (i + 1)) (by rw [h2]; decide)
      have a3 := signsE_bd s (i + 1) a1
      have hl : s.data.toList.length = s.size := rfl
      refine ⟨fun c hc => signsN_all s (s.size - (i + 1)) (i + 1) (by omega) c hc, ?_, by omega⟩
      rw [sub_len _ _ _ (by omega)]
      omega
    · cases h
  · cases h

theorem gPlain_wf {s : ByteArray} (hs : s.size ≤ 120) {n i : Nat} {t : LT} {j : Nat} (h : gPlain s n i = .ok t j) : NOk t ∧ lsz t + 3 * i ≤ 3 * j := by
  unfold gPlain at h
  cases hg : gAlts s n (i + 1) with
  | err p => rw [hg] at h; cases h
  | ok l k =>
    rw [hg] at h
    simp only [Res.bind] at h
    split at h
    · have hsz := (g_size s n).2.2 _ _ _ hg
      have hok := (gAlts_wf s hs n _ _ _ hg).2
      split at h
      · cases hq : gQuoted s (skipB s (k + 1)) with
        | err p => rw [hq] at h; cases h
        | ok v k1 =>
          rw [hq] at h
          simp only at h
          cases hq2 : gQuoted s (skipB s k1) with
          | err p => rw [hq2] at h; cases h
          | ok d m =>
            rw [hq2] at h
            cases h
            have q1 := gQuoted_wf hq
            have q2 := gQuoted_wf hq2
            have q3 := skipB_le2 s (k + 1)
            have q4 := skipB_le2 s k1
            exact ⟨NOk.of ⟨hok, q1.1⟩ (fun u hu => absurd hu (List.not_mem_nil)), by rw [lsz]; omega⟩
      · cases h
        have q3 := skipB_le2 s (k + 1)
        exact ⟨NOk.of hok (fun u hu => absurd hu (List.not_mem_nil)), by rw [lsz]; omega⟩
    · cases h

theorem gL_wf (s : ByteArray) (hs : s.size ≤ 120) : ∀ n, (∀ i t j, gPiece s n i = .ok t j → NOk t ∧ lsz t + 3 * i ≤ 3 * j) ∧ (∀ i t j, gItem s n i = .ok t j → NOk t ∧ lsz t + 3 * i ≤ 3 * j) ∧
    (∀ i x j, gItems s n i = .ok x j → (∀ u, u ∈ x.1 → NOk u) ∧ x.2.length + 1 = x.1.length ∧ lszL x.1 + 3 * i ≤ 3 * j) ∧ (∀ i x j, gRows s n i = .ok x j → (∀ u, u ∈ x.1 → NOk u) ∧ x.2.length + 1 = x.1.length ∧ lszL x.1 + 3 * i ≤ 3 * j + 1)
  | 0 => ⟨fun i t j h => (by rw [gPiece] at h; cases h), fun i l j h => (by rw [gItem] at h; cases h), fun i l j h => (by rw [gItems] at h; cases h), fun i l j h => (by rw [gRows] at h; cases h)⟩
  | n + 1 => by
    obtain ⟨k1, k2, k3, k4⟩ := gL_wf s hs n
    refine ⟨fun i t j h => ?_, fun i t j h => ?_, fun i t j h => ?_, fun i t j h => ?_⟩
    · rw [gPiece] at h
      split at h
      · exact gPlain_wf hs h
      · split at h
        · split at h
          · cases hq : gRows s n (skipB s (i + 1) + 1) with
            | err p => rw [hq] at h; cases h
            | ok a j1 =>
              rw [hq] at h
              simp only [Res.bind] at h
              have h1 := k4 _ _ _ hq
              split at h
              · cases hq2 : gRows s n (j1 + 1) with
                | err p => rw [hq2] at h; cases h
                | ok b k =>
                  rw [hq2] at h
                  simp only at h
                  have h3 := k4 _ _ _ hq2
                  split at h
                  · cases h
                    refine ⟨NOk.of trivial (fun u hu => ?_), ?_⟩
                    · rw [parts] at hu
                      rcases List.mem_cons.1 hu with rfl | hu
                      · exact NOk.joinAlt h1.1 h1.2.1
                      · rw [List.mem_singleton] at hu
                        subst hu
                        exact NOk.joinAlt h3.1 h3.2.1
                    · have := lsz_joinAlt a.1 a.2
                      have := lsz_joinAlt b.1 b.2
                      have := skipB_le2 s (i + 1)
                      rw [lsz]
                      omega
                  · cases h
              · cases h
          · cases h
        · split at h
          · cases hq : gRows s n (i + 1) with
            | err p => rw [hq] at h; cases h
            | ok a j1 =>
              rw [hq] at h
              simp only [Res.bind] at h
              have h1 := k4 _ _ _ hq
              split at h
              · cases h
                refine ⟨NOk.of trivial (fun u hu => ?_), ?_⟩
                · rw [parts, List.mem_singleton] at hu
                  subst hu
                  exact NOk.joinAlt h1.1 h1.2.1
                · have := lsz_joinAlt a.1 a.2
                  rw [lsz]
                  omega
              · cases h
          · cases h
    · rw [gItem] at h
      cases hq : gPiece s n i with
      | err p => rw [hq] at h; cases h
      | ok a j1 =>
        rw [hq] at h
        simp only [Res.bind] at h
        have h1 := k1 _ _ _ hq
        have h2 := skipB_le2 s j1
        split at h
        · cases h
          refine ⟨NOk.of trivial (fun u hu => ?_), ?_⟩
          · rw [parts, List.mem_singleton] at hu
            subst hu
            exact h1.1
          · have := skipB_le2 s (skipB s j1 + 1)
            rw [lsz]
            omega
        · cases h
          exact ⟨h1.1, by omega⟩
    · rw [gItems] at h
      cases hq : gItem s n i with
      | err p => rw [hq] at h; cases h
      | ok a j1 =>
        rw [hq] at h
        simp only [Res.bind] at h
        have h1 := k2 _ _ _ hq
        split at h
        · cases hq2 : gItems s n j1 with
          | err p => rw [hq2] at h; cases h
          | ok b k =>
            rw [hq2] at h
            have h3 := k3 _ _ _ hq2
            cases h
            refine ⟨fun u hu => ?_, by simp only [List.length_cons]; omega, by simp only [lszL]; omega⟩
            rcases List.mem_cons.1 hu with rfl | hu
            · exact h1.1
            · exact h3.1 u hu
        · cases h
          refine ⟨fun u hu => ?_, rfl, by simp only [lszL]; omega⟩
          rw [List.mem_singleton] at hu
          subst hu
          exact h1.1
    · rw [gRows] at h
      cases hq : gItems s n (skipB s i) with
      | err p => rw [hq] at h; cases h
      | ok a j1 =>
        rw [hq] at h
        simp only [Res.bind] at h
        have h1 := k3 _ _ _ hq
        have h0 := skipB_le2 s i
        have hj := lsz_joinRow a.1 a.2
        split at h
        · cases hq2 : gRows s n (j1 + 1) with
          | err p => rw [hq2] at h; cases h
          | ok b k =>
            rw [hq2] at h
            have h3 := k4 _ _ _ hq2
            cases h
            refine ⟨fun u hu => ?_, by simp only [List.length_cons]; omega, by simp only [lszL]; omega⟩
            rcases List.mem_cons.1 hu with rfl | hu
            · exact NOk.joinRow h1.1 h1.2.1
            · exact h3.1 u hu
        · cases h
          refine ⟨fun u hu => ?_, rfl, by simp only [lszL]; omega⟩
          rw [List.mem_singleton] at hu
          subst hu
          exact NOk.joinRow h1.1 h1.2.1

theorem tree_wf {s : ByteArray} {t : LT} (h : TreeOf s t) : NOk t ∧ lsz t ≤ 400 := by
  obtain ⟨hs, x, hg, _, rfl⟩ := h
  obtain ⟨h1, h2, h3⟩ := (gL_wf s hs _).2.2.2 _ _ _ hg
  exact ⟨NOk.joinAlt h1 h2, by have := lsz_joinAlt x.1 x.2; omega⟩
theorem tree_fg (s : ByteArray) (t : LT) (h : TreeOf s t) : FG t := FG.of (tree_wf h).1 (tree_wf h).2

theorem check_said (s : ByteArray) (w : World) (hm : s.size ≤ maxLen) (hTab : Tab w) :
    Calls Tryz.prog 14 #[.string s] w fun e w' => ChPost s w e w' := gcheck holds_said tree_fg s w hm hTab
theorem examine_said (s : ByteArray) (w : World) (hm : s.size ≤ maxLen) (hTab : Tab w) :
    Calls Tryz.prog 32 #[.string s] w fun e w' => ExPost s w e w' := gexamine holds_said tree_fg s w hm hTab

end Go.Proofs.YtlljggefbngkeaaGreatDoor

namespace Go.Proofs.YtlljggefbngkeaaGreatDoor
open Go.RowKit

/-! The joints of a lens, as the program finds them, and the nodes that the reference lays: the same witnesses. -/

def bM (v : Bool) (b : BT) : PT := if v then bV b else bS b

theorem M_seq2 {a b : PT} {u : List UInt8} : M (.seq [a, b]) u ↔ ∃ x y, u = x ++ y ∧ M a x ∧ M b y := by
  constructor
  · intro h
    cases h with
    | seq h =>
      cases h with
      | cons h1 h2 =>
        cases h2 with
        | cons h3 h4 => cases h4; exact ⟨_, _, by rw [List.append_nil], h1, h3⟩
  · rintro ⟨x, y, rfl, h1, h2⟩
    have := M.seq (ML.cons h1 (ML.cons h2 ML.nil))
    rw [List.append_nil] at this
    exact this
theorem M_alt2 {a b : PT} {u : List UInt8} : M (.alt [a, b]) u ↔ M a u ∨ M b u := by
  constructor
  · intro h
    cases h with
    | alt h1 h2 =>
      rcases List.mem_cons.1 h1 with rfl | h1
      · exact .inl h2
      · rw [List.mem_singleton] at h1
        subst h1
        exact .inr h2
  · rintro (h | h)
    · exact .alt (by simp) h
    · exact .alt (t := b) (by simp) h

theorem bM_row {v : Bool} {p : Nat} {a b : BT} {u : List UInt8} : M (bM v (.two 114 p a b)) u ↔ ∃ x y, u = x ++ y ∧ M (bM v a) x ∧ M (bM v b) y := by
  cases v <;> simp only [bM, bS, bV, Bool.false_eq_true, if_false, if_true] <;> exact M_seq2
theorem bM_alt {v : Bool} {p : Nat} {a b : BT} {u : List UInt8} : M (bM v (.two 124 p a b)) u ↔ M (bM v a) u ∨ M (bM v b) u := by
  cases v <;> simp only [bM, bS, bV, Bool.false_eq_true, if_false, if_true] <;> exact M_alt2
theorem rep_iff {t t' : PT} (H : ∀ u, M t u ↔ M t' u) (u : List UInt8) : M (.rep 42 t) u ↔ M (.rep 42 t') u :=
  ⟨rep_to fun u => (H u).1, rep_to fun u => (H u).2⟩

theorem ML_cons {t : PT} {l : List PT} {u : List UInt8} : ML (t :: l) u ↔ ∃ x y, u = x ++ y ∧ M t x ∧ ML l y := by
  constructor
  · intro h
    cases h with
    | cons h1 h2 => exact ⟨_, _, rfl, h1, h2⟩
  · rintro ⟨x, y, rfl, h1, h2⟩
    exact .cons h1 h2
theorem ML_nil {u : List UInt8} : ML [] u ↔ u = [] := ⟨fun h => by cases h; rfl, fun h => by rw [h]; exact .nil⟩

theorem rowG_seq (v : Bool) : ∀ (l : List LT) (c : BT) (ps : List Nat), (∀ t, t ∈ l → ∀ u, M (bM v (toB t)) u ↔ M (sideT v t) u) → ∀ u, M (bM v (rowG 114 c l ps)) u ↔ ∃ x y, u = x ++ y ∧ M (bM v c) x ∧ ML (sideTL v l) y
  | [], c, ps, H, u => by
    rw [rowG, sideTL]
    constructor
    · intro h; exact ⟨u, [], by simp, h, .nil⟩
    · rintro ⟨x, y, rfl, h1, h2⟩
      rw [ML_nil] at h2
      subst h2
      rw [List.append_nil]; exact h1
  | t :: l, c, ps, H, u => by
    rw [rowG, sideTL, rowG_seq v l _ _ fun t ht => H t (List.mem_cons_of_mem _ ht)]
    constructor
    · rintro ⟨x, y, rfl, h1, h2⟩
      obtain ⟨x1, x2, rfl, h3, h4⟩ := bM_row.1 h1
      exact ⟨x1, x2 ++ y, by rw [List.append_assoc], h3, .cons ((H t List.mem_cons_self _).1 h4) h2⟩
    · rintro ⟨x, y, rfl, h1, h2⟩
      obtain ⟨y1, y2, rfl, h3, h4⟩ := ML_cons.1 h2
      exact ⟨x ++ y1, y2, by rw [List.append_assoc], bM_row.2 ⟨x, y1, rfl, h1, (H t List.mem_cons_self _).2 h3⟩, h4⟩
theorem rowB_seq (v : Bool) {l : List LT} {ps : List Nat} (hl : 0 < l.length) (H : ∀ t, t ∈ l → ∀ u, M (bM v (toB t)) u ↔ M (sideT v t) u) (u : List UInt8) : M (bM v (rowB 114 l ps)) u ↔ ML (sideTL v l) u := by
  match l, hl with
  | t :: l, _ =>
    rw [rowB, rowG_seq v l _ _ fun t ht => H t (List.mem_cons_of_mem _ ht), sideTL, ML_cons]
    constructor
    · rintro ⟨x, y, e, h1, h2⟩; exact ⟨x, y, e, (H t List.mem_cons_self _).1 h1, h2⟩
    · rintro ⟨x, y, e, h1, h2⟩; exact ⟨x, y, e, (H t List.mem_cons_self _).2 h1, h2⟩

theorem rowG_alt (v : Bool) : ∀ (l : List LT) (c : BT) (ps : List Nat), (∀ t, t ∈ l → ∀ u, M (bM v (toB t)) u ↔ M (sideT v t) u) → ∀ u, M (bM v (rowG 124 c l ps)) u ↔ M (bM v c) u ∨ ∃ t, t ∈ sideTL v l ∧ M t u
  | [], c, ps, H, u => by
    rw [rowG, sideTL]
    simp
  | t :: l, c, ps, H, u => by
    rw [rowG, sideTL, rowG_alt v l _ _ (fun t ht => H t (List.mem_cons_of_mem _ ht)), bM_alt, H t List.mem_cons_self]
    constructor
    · rintro ((h | h) | ⟨x, h1, h2⟩)
      · exact .inl h
      · exact .inr ⟨_, List.mem_cons_self, h⟩
      · exact .inr ⟨x, List.mem_cons_of_mem _ h1, h2⟩
    · rintro (h | ⟨x, h1, h2⟩)
      · exact .inl (.inl h)
      · rcases List.mem_cons.1 h1 with rfl | h1
        · exact .inl (.inr h2)
        · exact .inr ⟨x, h1, h2⟩
theorem rowB_alt (v : Bool) {l : List LT} {ps : List Nat} (hl : 0 < l.length) (H : ∀ t, t ∈ l → ∀ u, M (bM v (toB t)) u ↔ M (sideT v t) u) (u : List UInt8) : M (bM v (rowB 124 l ps)) u ↔ ∃ t, t ∈ sideTL v l ∧ M t u := by
  match l, hl with
  | t :: l, _ =>
    rw [rowB, rowG_alt v l _ _ (fun t ht => H t (List.mem_cons_of_mem _ ht)), sideTL, H t List.mem_cons_self]
    constructor
    · rintro (h | ⟨x, h1, h2⟩)
      · exact ⟨_, List.mem_cons_self, h⟩
      · exact ⟨x, List.mem_cons_of_mem _ h1, h2⟩
    · rintro ⟨x, h1, h2⟩
      rcases List.mem_cons.1 h1 with rfl | h1
      · exact .inl h2
      · exact .inr ⟨x, h1, h2⟩

mutual
/-- the texts of a side are the same -/
theorem side_eq (v : Bool) : ∀ (t : LT), NOk t → ∀ u, M (bM v (toB t)) u ↔ M (sideT v t) u
  | .same l i j, h, u => by
    rw [toB, sideT, M_nf]
    cases v <;> exact Iff.rfl
  | .fixed l i j w d a, h, u => by
    rw [toB, sideT]
    cases v
    · simp only [Bool.false_eq_true, if_false]
      rw [M_nf]; exact Iff.rfl
    · simp only [if_true]
      rw [M_pSeq]
      show M (bV _) u ↔ _
      rw [bV]
      constructor
      · intro h
        cases h with
        | alt h1 h2 =>
          rw [List.mem_singleton] at h1
          subst h1
          cases h2; assumption
      · intro h; exact .alt List.mem_cons_self (.seq h)
  | .swap p a b, h, u => by
    have ha := side_eq v a (h.part (by simp [parts]))
    have hb := side_eq v b (h.part (by simp [parts]))
    rw [toB, sideT, M_pSeq]
    cases v
    · simp only [bM, bS, Bool.false_eq_true, if_false] at ha hb ⊢
      rw [if_neg (by decide), M_seq2, ML_cons]
      constructor
      · rintro ⟨x, y, rfl, h1, h2⟩; exact ⟨x, y, rfl, (ha _).1 h1, by have := ML.cons ((hb _).1 h2) ML.nil; rwa [List.append_nil] at this⟩
      · rintro ⟨x, y, rfl, h1, h2⟩
        obtain ⟨y1, y2, rfl, h3, h4⟩ := ML_cons.1 h2
        rw [ML_nil] at h4
        subst h4
        exact ⟨x, y1, by rw [List.append_nil], (ha _).2 h1, (hb _).2 h3⟩
    · simp only [bM, bV, if_true] at ha hb ⊢
      rw [if_neg (by decide), M_seq2, ML_cons]
      constructor
      · rintro ⟨x, y, rfl, h1, h2⟩; exact ⟨x, y, rfl, (hb _).1 h1, by have := ML.cons ((ha _).1 h2) ML.nil; rwa [List.append_nil] at this⟩
      · rintro ⟨x, y, rfl, h1, h2⟩
        obtain ⟨y1, y2, rfl, h3, h4⟩ := ML_cons.1 h2
        rw [ML_nil] at h4
        subst h4
        exact ⟨x, y1, by rw [List.append_nil], (hb _).2 h1, (ha _).2 h3⟩
  | .group a, h, u => by
    rw [toB, sideT]
    exact side_eq v a (h.part (by simp [parts])) u
  | .many p a, h, u => by
    have ha := side_eq v a (h.part (by simp [parts]))
    rw [toB, sideT, ← rep_iff ha]
    cases v <;> exact Iff.rfl
  | .row l ps, h, u => by
    have h0 : ps.length + 1 = l.length := h.self
    rw [toB, sideT, M_pSeq]
    exact rowB_seq v (by omega) (side_eqL v l fun t ht => h.part ht) u
  | .choice l ps, h, u => by
    have h0 : ps.length + 1 = l.length := h.self
    rw [toB, sideT, M_pAlt]
    exact rowB_alt v (by omega) (side_eqL v l fun t ht => h.part ht) u
theorem side_eqL (v : Bool) : ∀ (l : List LT), (∀ t, t ∈ l → NOk t) → ∀ t, t ∈ l → ∀ u, M (bM v (toB t)) u ↔ M (sideT v t) u
  | [], h, t, ht => by cases ht
  | x :: l, h, t, ht => by
    rcases List.mem_cons.1 ht with e | ht
    · rw [e]; exact side_eq v x (h x List.mem_cons_self)
    · exact side_eqL v l (fun t ht => h t (List.mem_cons_of_mem _ ht)) t ht
end

theorem Twice.congr {a b a' b' : PT} (ha : ∀ u, M a u ↔ M a' u) (hb : ∀ u, M b u ↔ M b' u) (u : List UInt8) : Twice a b u ↔ Twice a' b' u := by
  constructor
  · rintro ⟨w, u1, u2, e, hu, h1, h2, h3, h4⟩
    exact ⟨w, u1, u2, e, hu, (ha _).1 h1, (hb _).1 h2, (ha _).1 h3, (hb _).1 h4⟩
  · rintro ⟨w, u1, u2, e, hu, h1, h2, h3, h4⟩
    exact ⟨w, u1, u2, e, hu, (ha _).2 h1, (hb _).2 h2, (ha _).2 h3, (hb _).2 h4⟩
theorem Ways2.congr {t t' : PT} (h : ∀ u, M t u ↔ M t' u) {d : List UInt8} : Ways2 t d ↔ Ways2 t' d := by
  constructor
  · rintro ⟨E, hE, r⟩; exact ⟨E, fun i j => (hE i j).trans (h _), r⟩
  · rintro ⟨E, hE, r⟩; exact ⟨E, fun i j => (hE i j).trans (h _).symm, r⟩
theorem ways_rows {t : PT} {d : List UInt8} (h : Ways2 t d) : Rows2 t d := by
  obtain ⟨E, hE, r⟩ := h
  exact rows_of_pt (fun i j _ _ => hE i j) r
theorem rows_ways {t : PT} {d : List UInt8} (h0 : ¬ M t []) (h : Rows2 t d) : Ways2 t d := by
  obtain ⟨E, hE⟩ := steps2_ex t d
  exact ⟨E, hE, pt_of_rows (fun i j _ _ => hE i j) h0 h⟩
theorem twice_ways {t : PT} {d : List UInt8} (h0 : ¬ M t []) (h : Twice t (.rep 42 t) d) : d ≠ [] ∧ Ways2 t d := by
  refine ⟨?_, rows_ways h0 (rows_of_twice h)⟩
  obtain ⟨w, u1, u2, rfl, hu, _⟩ := h
  intro e
  simp at e
  exact hu e.2.1

theorem sideTL_take (v : Bool) : ∀ (l : List LT) (n : Nat), sideTL v (l.take n) = (sideTL v l).take n
  | [], n => by simp [sideTL]
  | t :: l, 0 => by simp [sideTL]
  | t :: l, n + 1 => by rw [List.take_succ_cons, sideTL, sideTL, List.take_succ_cons, sideTL_take v l n]
theorem sideTL_at (v : Bool) : ∀ (l : List LT) (n : Nat) (t : LT), l[n]? = some t → (sideTL v l)[n]? = some (sideT v t)
  | x :: l, 0, t, h => by
    rw [List.getElem?_cons_zero] at h
    rw [sideTL, List.getElem?_cons_zero, Option.some.inj h]
  | x :: l, n + 1, t, h => by
    rw [List.getElem?_cons_succ] at h
    rw [sideTL, List.getElem?_cons_succ]
    exact sideTL_at v l n t h

section
variable {l : List LT} {ps : List Nat} {n : Nat} {t : LT} {p : Nat}

theorem row_joint (h : NOk (.row l ps)) (ht : l[n + 1]? = some t) (u : List UInt8) :
    BWit (.two 114 p (rowB 114 (l.take (n + 1)) (ps.take n)) (toB t)) u ↔ JWit (.row l ps) n u := by
  have hpart : ∀ t, t ∈ l → NOk t := fun t ht => h.part ht
  have hA : ∀ v u, M (bM v (rowB 114 (l.take (n + 1)) (ps.take n))) u ↔ M (twA v (.row l ps) n) u := fun v u => by
    have h0 : 0 < (l.take (n + 1)).length := by
      have := (List.getElem?_eq_some_iff.1 ht).1
      rw [List.length_take]; omega
    rw [rowB_seq v h0 (side_eqL v _ fun t ht => hpart t (List.mem_of_mem_take ht))]
    show _ ↔ M (pSeq ((sideTL v l).take (n + 1))) u
    rw [M_pSeq, sideTL_take]
  have hB : ∀ v u, M (bM v (toB t)) u ↔ M (twB v (.row l ps) n) u := fun v u => by
    rw [side_eq v t (hpart t (List.mem_of_getElem? ht))]
    show _ ↔ M (((sideTL v l)[n + 1]?).getD (.seq [])) u
    rw [sideTL_at v l _ t ht]
    exact Iff.rfl
  rw [BWit, if_neg (by decide), if_neg (by decide)]
  exact or_congr (Twice.congr (hA false) (hB false) u) (Twice.congr (hA true) (hB true) u)

theorem choice_joint (h : NOk (.choice l ps)) (ht : l[n + 1]? = some t) (u : List UInt8) :
    BWit (.two 124 p (rowB 124 (l.take (n + 1)) (ps.take n)) (toB t)) u ↔ JWit (.choice l ps) n u := by
  have hpart : ∀ t, t ∈ l → NOk t := fun t ht => h.part ht
  have hA : ∀ u, M (bS (rowB 124 (l.take (n + 1)) (ps.take n))) u ↔ M (shA (.choice l ps) n) u := fun u => by
    have h0 : 0 < (l.take (n + 1)).length := by
      have := (List.getElem?_eq_some_iff.1 ht).1
      rw [List.length_take]; omega
    have := rowB_alt false (ps := ps.take n) h0 (side_eqL false _ fun t ht => hpart t (List.mem_of_mem_take ht)) u
    refine this.trans ?_
    show _ ↔ M (pAlt ((sideTL false l).take (n + 1))) u
    rw [M_pAlt, sideTL_take]
  have hB : ∀ u, M (bS (toB t)) u ↔ M (twB false (.choice l ps) n) u := fun u => by
    refine (side_eq false t (hpart t (List.mem_of_getElem? ht)) u).trans ?_
    show _ ↔ M (((sideTL false l)[n + 1]?).getD (.seq [])) u
    rw [sideTL_at false l _ t ht]
    exact Iff.rfl
  rw [BWit, if_pos rfl]
  exact and_congr (hA u) (hB u)
end

theorem swap_joint {p : Nat} {a b : LT} (h : NOk (.swap p a b)) (u : List UInt8) : BWit (.two 126 p (toB a) (toB b)) u ↔ JWit (.swap p a b) 0 u := by
  have ha := fun v => side_eq v a (h.part (by simp [parts]))
  have hb := fun v => side_eq v b (h.part (by simp [parts]))
  rw [BWit, if_neg (by decide), if_pos rfl]
  exact or_congr (Twice.congr (ha false) (hb false) u) (Twice.congr (hb true) (ha true) u)

theorem many_to {p : Nat} {a : LT} (h : NOk (.many p a)) {u : List UInt8} (hu : BWit (.star p (toB a)) u) : ∃ u', JWit (.many p a) 0 u' := by
  have ha := fun v => side_eq v a (h.part (by simp [parts]))
  by_cases e0 : M (sideT false a) []
  · exact ⟨[], .inl (.inl ⟨e0, rfl⟩)⟩
  · by_cases e1 : M (sideT true a) []
    · exact ⟨[], .inr (.inl ⟨e1, rfl⟩)⟩
    · rw [BWit] at hu
      split at hu
      · rcases hu with hu | hu
        · exact absurd ((ha false []).1 hu) e0
        · exact absurd ((ha true []).1 hu) e1
      · rcases hu with hu | hu
        · obtain ⟨l, l', q1, q2, q3, q4, q5⟩ := ways_rows ((Ways2.congr (ha false)).1 hu)
          obtain ⟨s, hs⟩ := twice_of_rows e0 l l' q1 q2 q3 (q4.trans q5.symm)
          exact ⟨s, .inl (.inr ⟨e0, hs⟩)⟩
        · obtain ⟨l, l', q1, q2, q3, q4, q5⟩ := ways_rows ((Ways2.congr (ha true)).1 hu)
          obtain ⟨s, hs⟩ := twice_of_rows e1 l l' q1 q2 q3 (q4.trans q5.symm)
          exact ⟨s, .inr (.inr ⟨e1, hs⟩)⟩
theorem many_of {p : Nat} {a : LT} (h : NOk (.many p a)) {u : List UInt8} (hu : JWit (.many p a) 0 u) : BWit (.star p (toB a)) u := by
  have ha := fun v => side_eq v a (h.part (by simp [parts]))
  rw [BWit]
  rcases hu with (⟨h1, rfl⟩ | ⟨h1, h2⟩) | (⟨h1, rfl⟩ | ⟨h1, h2⟩)
  · rw [if_pos rfl]; exact .inl ((ha false []).2 h1)
  · obtain ⟨q1, q2⟩ := twice_ways h1 h2
    rw [if_neg q1]; exact .inl ((Ways2.congr (ha false)).2 q2)
  · rw [if_pos rfl]; exact .inr ((ha true []).2 h1)
  · obtain ⟨q1, q2⟩ := twice_ways h1 h2
    rw [if_neg q1]; exact .inr ((Ways2.congr (ha true)).2 q2)

theorem mem_jl (T : LT) (x : LT × Nat) : ∀ (l : List LT) (i : Nat), x ∈ jointsL T i l ↔ (∃ u, u ∈ l ∧ x ∈ joints_ u) ∨ ∃ m, m < l.length ∧ i + m ≠ 0 ∧ x = (T, i + m - 1)
  | [], i => by rw [jointsL]; simp
  | u :: l, i => by
    rw [jointsL, List.mem_append, List.mem_append, mem_jl T x l (i + 1)]
    constructor
    · rintro ((h | h) | ⟨y, h1, h2⟩ | ⟨m, h1, h2, h3⟩)
      · split at h
        · cases h
        · rw [List.mem_singleton] at h
          exact .inr ⟨0, by simp, by omega, by rw [h]; rfl⟩
      · exact .inl ⟨u, List.mem_cons_self, h⟩
      · exact .inl ⟨y, List.mem_cons_of_mem _ h1, h2⟩
      · exact .inr ⟨m + 1, by rw [List.length_cons]; omega, by omega, by rw [h3]; congr 1; omega⟩
    · rintro (⟨y, h1, h2⟩ | ⟨m, h1, h2, h3⟩)
      · rcases List.mem_cons.1 h1 with rfl | h1
        · exact .inl (.inr h2)
        · exact .inr (.inl ⟨y, h1, h2⟩)
      · match m, h1, h2, h3 with
        | 0, h1, h2, h3 => exact .inl (.inl (by rw [if_neg (by omega), List.mem_singleton, h3]; rfl))
        | m + 1, h1, h2, h3 => exact .inr (.inr ⟨m, by rw [List.length_cons] at h1; omega, by omega, by rw [h3]; congr 1; omega⟩)
theorem mem_joints_row (T : LT) (l : List LT) (x : LT × Nat) : x ∈ jointsL T 0 l ↔ (∃ u, u ∈ l ∧ x ∈ joints_ u) ∨ ∃ m, m + 1 < l.length ∧ x = (T, m) := by
  rw [mem_jl]
  refine or_congr Iff.rfl ⟨?_, ?_⟩
  · rintro ⟨m, h1, h2, h3⟩
    match m, h1, h2, h3 with
    | 0, h1, h2, h3 => exact absurd rfl h2
    | m + 1, h1, h2, h3 => exact ⟨m, h1, by rw [h3]; congr 1; omega⟩
  · rintro ⟨m, h1, h2⟩
    exact ⟨m + 1, h1, by omega, by rw [h2]; congr 1; omega⟩

theorem snoc_split {α : Type} {l : List α} {n : Nat} (h : l.length = n + 1) : ∃ r x, l = r ++ [x] ∧ r.length = n := by
  have hn : l ≠ [] := fun e => by rw [e] at h; cases h
  exact ⟨l.dropLast, l.getLast hn, (List.dropLast_concat_getLast hn).symm, by rw [List.length_dropLast, h]; rfl⟩

/-- the nodes of a row of lenses -/
theorem mem_bsubs_row (kd : Int) (c : BT) : ∀ (k : Nat) (l : List LT) (ps : List Nat), l.length = k + 1 → ps.length = k → (c ∈ bsubs (rowB kd l ps) ↔ (∃ u, u ∈ l ∧ c ∈ bsubs (toB u)) ∨ ∃ m t p, l[m + 1]? = some t ∧ ps[m]? = some p ∧ c = .two kd p (rowB kd (l.take (m + 1)) (ps.take m)) (toB t))
  | 0, l, ps, h1, h2 => by
    match l, h1 with
    | [t], _ =>
      rw [rowB_one]
      constructor
      · intro h; exact .inl ⟨t, List.mem_cons_self, h⟩
      · rintro (⟨u, hu, h⟩ | ⟨m, t', p, h3, _⟩)
        · rw [List.mem_singleton] at hu; rw [← hu]; exact h
        · simp at h3
  | k + 1, l, ps, h1, h2 => by
    obtain ⟨r, x, rfl, hr⟩ := snoc_split h1
    obtain ⟨q, j, rfl, hq⟩ := snoc_split h2
    have ih := mem_bsubs_row kd c k r q hr hq
    rw [rowB_snoc kd x j r q (by omega), bsubs, List.mem_cons, List.mem_append, ih]
    constructor
    · rintro (h | (⟨u, hu, h⟩ | ⟨m, t, p, e1, e2, e3⟩) | h)
      · refine .inr ⟨k, x, j, ?_, ?_, ?_⟩
        · rw [← hr]; simp
        · rw [← hq]; simp
        · rw [h]
          have a1 : (r ++ [x]).take (k + 1) = r := by rw [← hr]; simp
          have a2 : (q ++ [j]).take k = q := by rw [← hq]; simp
          rw [a1, a2]
      · exact .inl ⟨u, List.mem_append_left _ hu, h⟩
      · have b1 := (List.getElem?_eq_some_iff.1 e1).1
        have b2 := (List.getElem?_eq_some_iff.1 e2).1
        refine .inr ⟨m, t, p, by rw [List.getElem?_append_left b1]; exact e1, by rw [List.getElem?_append_left b2]; exact e2, ?_⟩
        rw [List.take_append_of_le_length (by omega), List.take_append_of_le_length (by omega)]
        exact e3
      · exact .inl ⟨x, List.mem_append_right _ List.mem_cons_self, h⟩
    · rintro (⟨u, hu, h⟩ | ⟨m, t, p, e1, e2, e3⟩)
      · rcases List.mem_append.1 hu with hu | hu
        · exact .inr (.inl (.inl ⟨u, hu, h⟩))
        · rw [List.mem_singleton] at hu; rw [hu] at h; exact .inr (.inr h)
      · by_cases e : m = k
        · subst e
          refine .inl ?_
          have a1 : (r ++ [x]).take (m + 1) = r := by rw [← hr]; simp
          have a2 : (q ++ [j]).take m = q := by rw [← hq]; simp
          have a3 : (r ++ [x])[m + 1]? = some x := by rw [← hr]; simp
          have a4 : (q ++ [j])[m]? = some j := by rw [← hq]; simp
          rw [a3] at e1
          rw [a4] at e2
          rw [e3, a1, a2, ← Option.some.inj e1, ← Option.some.inj e2]
        · have b1 := (List.getElem?_eq_some_iff.1 e1).1
          rw [List.length_append, List.length_singleton] at b1
          have b2 : m < q.length := by omega
          have b3 : m + 1 < r.length := by omega
          rw [List.getElem?_append_left b3] at e1
          rw [List.getElem?_append_left b2] at e2
          rw [List.take_append_of_le_length (by omega), List.take_append_of_le_length (by omega)] at e3
          exact .inr (.inl (.inr ⟨m, t, p, e1, e2, e3⟩))

theorem mem_bsubs {kd : Int} {l : List LT} {ps : List Nat} (h : ps.length + 1 = l.length) (c : BT) : c ∈ bsubs (rowB kd l ps) ↔ (∃ u, u ∈ l ∧ c ∈ bsubs (toB u)) ∨ ∃ m t p, l[m + 1]? = some t ∧ ps[m]? = some p ∧ c = .two kd p (rowB kd (l.take (m + 1)) (ps.take m)) (toB t) :=
  mem_bsubs_row kd c ps.length l ps h.symm rfl

mutual
/-- a node that has a witness: a joint has one -/
theorem acc_link : ∀ (t : LT), NOk t → ∀ c, c ∈ bsubs (toB t) → ∀ u, BWit c u → ∃ x, x ∈ joints_ t ∧ ∃ u', JWit x.1 x.2 u'
  | .same l i j, h, c, hc, u, hu => by
    rw [toB, bsubs, List.mem_singleton] at hc
    subst hc
    exact hu.elim
  | .fixed l i j v d a, h, c, hc, u, hu => by
    rw [toB, bsubs, List.mem_singleton] at hc
    subst hc
    exact hu.elim
  | .swap p a b, h, c, hc, u, hu => by
    rw [toB, bsubs, List.mem_cons, List.mem_append] at hc
    rw [joints_]
    rcases hc with rfl | hc | hc
    · exact ⟨_, List.mem_cons_self, u, (swap_joint h u).1 hu⟩
    · obtain ⟨x, h1, h2⟩ := acc_link a (h.part (by simp [parts])) c hc u hu
      exact ⟨x, List.mem_cons_of_mem _ (List.mem_append_left _ h1), h2⟩
    · obtain ⟨x, h1, h2⟩ := acc_link b (h.part (by simp [parts])) c hc u hu
      exact ⟨x, List.mem_cons_of_mem _ (List.mem_append_right _ h1), h2⟩
  | .group a, h, c, hc, u, hu => by
    rw [toB] at hc
    rw [joints_]
    exact acc_link a (h.part (by simp [parts])) c hc u hu
  | .many p a, h, c, hc, u, hu => by
    rw [toB, bsubs, List.mem_cons] at hc
    rw [joints_]
    rcases hc with rfl | hc
    · obtain ⟨u', h1⟩ := many_to h hu
      exact ⟨_, List.mem_append_right _ List.mem_cons_self, u', h1⟩
    · obtain ⟨x, h1, h2⟩ := acc_link a (h.part (by simp [parts])) c hc u hu
      exact ⟨x, List.mem_append_left _ h1, h2⟩
  | .row l ps, h, c, hc, u, hu => by
    have h0 : ps.length + 1 = l.length := h.self
    rw [toB] at hc
    rw [joints_]
    rcases (mem_bsubs h0 c).1 hc with ⟨y, h1, h2⟩ | ⟨m, t, p, h1, h2, h3⟩
    · obtain ⟨x, h3, h4⟩ := acc_linkL l (fun t ht => h.part ht) y h1 c h2 u hu
      exact ⟨x, (mem_joints_row _ _ _).2 (.inl ⟨y, h1, h3⟩), h4⟩
    · rw [h3] at hu
      exact ⟨(.row l ps, m), (mem_joints_row _ _ _).2 (.inr ⟨m, (List.getElem?_eq_some_iff.1 h1).1, rfl⟩), u, (row_joint h h1 u).1 hu⟩
  | .choice l ps, h, c, hc, u, hu => by
    have h0 : ps.length + 1 = l.length := h.self
    rw [toB] at hc
    rw [joints_]
    rcases (mem_bsubs h0 c).1 hc with ⟨y, h1, h2⟩ | ⟨m, t, p, h1, h2, h3⟩
    · obtain ⟨x, h3, h4⟩ := acc_linkL l (fun t ht => h.part ht) y h1 c h2 u hu
      exact ⟨x, (mem_joints_row _ _ _).2 (.inl ⟨y, h1, h3⟩), h4⟩
    · rw [h3] at hu
      exact ⟨(.choice l ps, m), (mem_joints_row _ _ _).2 (.inr ⟨m, (List.getElem?_eq_some_iff.1 h1).1, rfl⟩), u, (choice_joint h h1 u).1 hu⟩
theorem acc_linkL : ∀ (l : List LT), (∀ t, t ∈ l → NOk t) → ∀ t, t ∈ l → ∀ c, c ∈ bsubs (toB t) → ∀ u, BWit c u → ∃ x, x ∈ joints_ t ∧ ∃ u', JWit x.1 x.2 u'
  | [], h, t, ht => by cases ht
  | x :: l, h, t, ht => by
    rcases List.mem_cons.1 ht with e | ht
    · rw [e]; exact acc_link x (h x List.mem_cons_self)
    · exact acc_linkL l (fun t ht => h t (List.mem_cons_of_mem _ ht)) t ht
end

mutual
/-- a joint's witness is one of a node at the same place -/
theorem ref_link : ∀ (t : LT), NOk t → ∀ x, x ∈ joints_ t → ∀ p, (placesOf x.1)[x.2]? = some p → ∀ u, JWit x.1 x.2 u → ∃ c, c ∈ bsubs (toB t) ∧ bat c = some p ∧ BWit c u
  | .same l i j, h, x, hx, p, hp, u, hu => by
    rw [joints_] at hx
    cases hx
  | .fixed l i j v d a, h, x, hx, p, hp, u, hu => by
    rw [joints_] at hx
    cases hx
  | .swap q a b, h, x, hx, p, hp, u, hu => by
    rw [joints_, List.mem_cons, List.mem_append] at hx
    rw [toB, bsubs]
    rcases hx with rfl | hx | hx
    · exact ⟨_, List.mem_cons_self, hp, (swap_joint h u).2 hu⟩
    · obtain ⟨c, h1, h2⟩ := ref_link a (h.part (by simp [parts])) x hx p hp u hu
      exact ⟨c, List.mem_cons_of_mem _ (List.mem_append_left _ h1), h2⟩
    · obtain ⟨c, h1, h2⟩ := ref_link b (h.part (by simp [parts])) x hx p hp u hu
      exact ⟨c, List.mem_cons_of_mem _ (List.mem_append_right _ h1), h2⟩
  | .group a, h, x, hx, p, hp, u, hu => by
    rw [joints_] at hx
    rw [toB]
    exact ref_link a (h.part (by simp [parts])) x hx p hp u hu
  | .many q a, h, x, hx, p, hp, u, hu => by
    rw [joints_, List.mem_append, List.mem_singleton] at hx
    rw [toB, bsubs]
    rcases hx with hx | rfl
    · obtain ⟨c, h1, h2⟩ := ref_link a (h.part (by simp [parts])) x hx p hp u hu
      exact ⟨c, List.mem_cons_of_mem _ h1, h2⟩
    · exact ⟨_, List.mem_cons_self, hp, many_of h hu⟩
  | .row l ps, h, x, hx, p, hp, u, hu => by
    have h0 : ps.length + 1 = l.length := h.self
    rw [joints_] at hx
    rw [toB]
    rcases (mem_joints_row _ _ _).1 hx with ⟨y, h1, h2⟩ | ⟨m, h1, rfl⟩
    · obtain ⟨c, h3, h4⟩ := ref_linkL l (fun t ht => h.part ht) y h1 x h2 p hp u hu
      exact ⟨c, (mem_bsubs h0 c).2 (.inl ⟨y, h1, h3⟩), h4⟩
    · have ht : l[m + 1]? = some l[m + 1] := List.getElem?_eq_getElem h1
      exact ⟨_, (mem_bsubs h0 _).2 (.inr ⟨m, _, p, ht, hp, rfl⟩), rfl, (row_joint h ht u).2 hu⟩
  | .choice l ps, h, x, hx, p, hp, u, hu => by
    have h0 : ps.length + 1 = l.length := h.self
    rw [joints_] at hx
    rw [toB]
    rcases (mem_joints_row _ _ _).1 hx with ⟨y, h1, h2⟩ | ⟨m, h1, rfl⟩
    · obtain ⟨c, h3, h4⟩ := ref_linkL l (fun t ht => h.part ht) y h1 x h2 p hp u hu
      exact ⟨c, (mem_bsubs h0 c).2 (.inl ⟨y, h1, h3⟩), h4⟩
    · have ht : l[m + 1]? = some l[m + 1] := List.getElem?_eq_getElem h1
      exact ⟨_, (mem_bsubs h0 _).2 (.inr ⟨m, _, p, ht, hp, rfl⟩), rfl, (choice_joint h ht u).2 hu⟩
theorem ref_linkL : ∀ (l : List LT), (∀ t, t ∈ l → NOk t) → ∀ t, t ∈ l → ∀ x, x ∈ joints_ t → ∀ p, (placesOf x.1)[x.2]? = some p → ∀ u, JWit x.1 x.2 u → ∃ c, c ∈ bsubs (toB t) ∧ bat c = some p ∧ BWit c u
  | [], h, t, ht => by cases ht
  | y :: l, h, t, ht => by
    rcases List.mem_cons.1 ht with e | ht
    · rw [e]; exact ref_link y (h y List.mem_cons_self)
    · exact ref_linkL l (fun t ht => h t (List.mem_cons_of_mem _ ht)) t ht
end

end Go.Proofs.YtlljggefbngkeaaGreatDoor
