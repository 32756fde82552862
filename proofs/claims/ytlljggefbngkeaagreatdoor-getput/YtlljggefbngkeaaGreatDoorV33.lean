import Derived.Test.YtlljggefbngkeaaGreatDoorV32
import Derived.Test.YtlljggefbngkeaaGreatDoorV11
import Derived.Test.YtlljggefbngkeaaGreatDoorV09
namespace Go.Proofs.YtlljggefbngkeaaGreatDoor
open Go.RowKit

/-! What is seen, laid back and made, against one another: of a lens none of whose nodes has a witness. -/

theorem cut_app {A B : PT} (hn : ∀ u, ¬ Twice A B u) {x y : List UInt8} (hx : M A x) (hy : M B y) : cutN A B (x ++ y) = x.length := by
  have hc : ∃ i, i ≤ (x ++ y).length ∧ M A ((x ++ y).take i) ∧ M B ((x ++ y).drop i) := ⟨x.length, by simp, by simpa using hx, by simpa using hy⟩
  obtain ⟨_, h1, h2, h3, _⟩ := cut_spec hc
  have hx' : M A (sub (x ++ y) 0 x.length) := by rw [sub_zero_take]; simpa using hx
  have hy' : M B (sub (x ++ y) x.length (x ++ y).length) := by rw [sub_end_drop]; simpa using hy
  have h2' : M A (sub (x ++ y) 0 (cutN A B (x ++ y))) := by rw [sub_zero_take]; exact h2
  have h3' : M B (sub (x ++ y) (cutN A B (x ++ y)) (x ++ y).length) := by rw [sub_end_drop]; exact h3
  rcases Nat.lt_trichotomy (cutN A B (x ++ y)) x.length with h | h | h
  · exact absurd (twice_places.2 ⟨_, _, h, by simp, h2', h3', hx', hy'⟩) (hn _)
  · exact h
  · exact absurd (twice_places.2 ⟨_, _, h, h1, hx', hy', h2', h3'⟩) (hn _)

theorem cutN_congr {A B A' B' : PT} (hA : ∀ u, M A u ↔ M A' u) (hB : ∀ u, M B u ↔ M B' u) (u : List UInt8) : cutN A B u = cutN A' B' u := by
  have : pqF A B u = pqF A' B' u := funext fun i => by
    unfold pqF
    rw [decide_eq_decide, hA, hB]
  unfold cutN cutI
  rw [this]
theorem pcF_congr {A A' : PT} (hA : ∀ u, M A u ↔ M A' u) (u : List UInt8) : pcF A u = pcF A' u := by
  have : ∀ n u, pcN A n u = pcN A' n u := fun n => by
    induction n with
    | zero => intro u; rfl
    | succ n ih => intro u; rw [pcN, pcN, cutN_congr hA (rep_iff hA), ih]
  rw [pcF, pcF, this]


theorem M_word : ∀ (v u : List UInt8), ML (v.map fun c => PT.chr [c]) u ↔ u = v
  | [], u => by rw [List.map_nil, ML_nil]
  | c :: v, u => by
    rw [List.map_cons, ML_cons]
    constructor
    · rintro ⟨x, y, rfl, h1, h2⟩
      rw [M_word v y] at h2
      subst h2
      cases h1 with
      | chr h => rw [List.mem_singleton] at h; subst h; rfl
    · rintro rfl
      exact ⟨[c], v, rfl, .chr (by simp), (M_word v v).2 rfl⟩
theorem M_key {t : PT} {v d u : List UInt8} : M (bV (.key t v d)) u ↔ u = v := by
  rw [bV, ← M_word v u]
  constructor
  · intro h
    cases h with
    | alt h1 h2 =>
      rw [List.mem_singleton] at h1
      subst h1
      cases h2; assumption
  · intro h; exact .alt List.mem_cons_self (.seq h)




section
variable {p : Nat} {a b : BT}

theorem row_src {u : List UInt8} : M (bS (.two 114 p a b)) u ↔ ∃ x y, u = x ++ y ∧ M (bS a) x ∧ M (bS b) y := by
  rw [bS, if_neg (by decide)]; exact M_seq2
theorem row_vw {u : List UInt8} : M (bV (.two 114 p a b)) u ↔ ∃ x y, u = x ++ y ∧ M (bV a) x ∧ M (bV b) y := by
  rw [bV, if_neg (by decide), if_neg (by decide)]; exact M_seq2
theorem alt_src {u : List UInt8} : M (bS (.two 124 p a b)) u ↔ M (bS a) u ∨ M (bS b) u := by
  rw [bS, if_pos rfl]; exact M_alt2
theorem alt_vw {u : List UInt8} : M (bV (.two 124 p a b)) u ↔ M (bV a) u ∨ M (bV b) u := by
  rw [bV, if_pos rfl]; exact M_alt2

theorem get_row (hn : ∀ u, ¬ Twice (bS a) (bS b) u) {x y : List UInt8} (hx : M (bS a) x) (hy : M (bS b) y) : getF (.two 114 p a b) (x ++ y) = getF a x ++ getF b y := by
  rw [getF, if_neg (by decide), if_neg (by decide), cut_app hn hx hy, List.take_left, List.drop_left]
theorem make_rowz (hn : ∀ u, ¬ Twice (bV a) (bV b) u) {x y : List UInt8} (hx : M (bV a) x) (hy : M (bV b) y) : makeF (.two 114 p a b) (x ++ y) = makeF a x ++ makeF b y := by
  rw [makeF, if_neg (by decide), if_neg (by decide), cut_app hn hx hy, List.take_left, List.drop_left]
theorem put_rowz (hn : ∀ u, ¬ Twice (bS a) (bS b) u) (hm : ∀ u, ¬ Twice (bV a) (bV b) u) {x y v w : List UInt8} (hx : M (bS a) x) (hy : M (bS b) y) (hv : M (bV a) v) (hw : M (bV b) w) : putF (.two 114 p a b) (v ++ w) (x ++ y) = putF a v x ++ putF b w y := by
  rw [putF, if_neg (by decide), if_neg (by decide), cut_app hn hx hy, cut_app hm hv hw, List.take_left, List.drop_left, List.take_left, List.drop_left]


end




end Go.Proofs.YtlljggefbngkeaaGreatDoor

namespace Go.Proofs.YtlljggefbngkeaaGreatDoor
open Go.RowKit

/-! A choice of several, as a choice of two, each time. -/

/-- the first of them that has the text -/
def FstM (f : BT → PT) (l : List LT) (i : Nat) (t : LT) (u : List UInt8) : Prop := l[i]? = some t ∧ M (f (toB t)) u ∧ ∀ (j : Nat) (t' : LT), j < i → l[j]? = some t' → ¬ M (f (toB t')) u

theorem FstM.zero {f : BT → PT} {x t : LT} {l : List LT} {u : List UInt8} (h : FstM f (x :: l) 0 t u) : x = t ∧ M (f (toB x)) u := by
  obtain ⟨h1, h2, _⟩ := h
  rw [List.getElem?_cons_zero] at h1
  obtain rfl := Option.some.inj h1
  exact ⟨rfl, h2⟩
theorem FstM.succ {f : BT → PT} {x t : LT} {l : List LT} {i : Nat} {u : List UInt8} (h : FstM f (x :: l) (i + 1) t u) : ¬ M (f (toB x)) u ∧ FstM f l i t u := by
  obtain ⟨h1, h2, h3⟩ := h
  refine ⟨h3 0 x (by omega) rfl, by simpa using h1, h2, fun j t' hj ht => h3 (j + 1) t' (by omega) (by simpa using ht)⟩

section
variable (ps : List Nat)
theorem get_alt1 : ∀ (l : List LT) (ps : List Nat) (c : BT) (u : List UInt8), M (bS c) u → getF (rowG 124 c l ps) u = getF c u
  | [], ps, c, u, h => by rw [rowG]
  | x :: l, ps, c, u, h => by
    rw [rowG, get_alt1 l _ _ u (alt_src.2 (.inl h)), getF, if_pos rfl, if_pos h]
theorem get_alt2 : ∀ (l : List LT) (ps : List Nat) (c : BT) (u : List UInt8) (i : Nat) (t : LT), ¬ M (bS c) u → FstM bS l i t u → getF (rowG 124 c l ps) u = getF (toB t) u
  | [], ps, c, u, i, t, h, hf => by have := hf.1; simp at this
  | x :: l, ps, c, u, 0, t, h, hf => by
    obtain ⟨rfl, h1⟩ := hf.zero
    rw [rowG, get_alt1 l _ _ u (alt_src.2 (.inr h1)), getF, if_pos rfl, if_neg h]
  | x :: l, ps, c, u, i + 1, t, h, hf => by
    obtain ⟨h1, h2⟩ := hf.succ
    rw [rowG]
    exact get_alt2 l _ _ u i t (fun e => (alt_src.1 e).elim h h1) h2
theorem make_alt1 : ∀ (l : List LT) (ps : List Nat) (c : BT) (u : List UInt8), M (bV c) u → makeF (rowG 124 c l ps) u = makeF c u
  | [], ps, c, u, h => by rw [rowG]
  | x :: l, ps, c, u, h => by
    rw [rowG, make_alt1 l _ _ u (alt_vw.2 (.inl h)), makeF, if_pos rfl, if_pos h]
theorem make_alt2 : ∀ (l : List LT) (ps : List Nat) (c : BT) (u : List UInt8) (i : Nat) (t : LT), ¬ M (bV c) u → FstM bV l i t u → makeF (rowG 124 c l ps) u = makeF (toB t) u
  | [], ps, c, u, i, t, h, hf => by have := hf.1; simp at this
  | x :: l, ps, c, u, 0, t, h, hf => by
    obtain ⟨rfl, h1⟩ := hf.zero
    rw [rowG, make_alt1 l _ _ u (alt_vw.2 (.inr h1)), makeF, if_pos rfl, if_neg h]
  | x :: l, ps, c, u, i + 1, t, h, hf => by
    obtain ⟨h1, h2⟩ := hf.succ
    rw [rowG]
    exact make_alt2 l _ _ u i t (fun e => (alt_vw.1 e).elim h h1) h2
/-- its views -/
theorem rowG_vw : ∀ (l : List LT) (ps : List Nat) (c : BT) (u : List UInt8), M (bV (rowG 124 c l ps)) u ↔ M (bV c) u ∨ ∃ t, t ∈ l ∧ M (bV (toB t)) u
  | [], ps, c, u => by rw [rowG]; simp
  | x :: l, ps, c, u => by
    rw [rowG, rowG_vw l, alt_vw]
    simp only [List.mem_cons, exists_eq_or_imp]
    exact or_assoc
theorem put_alt1 : ∀ (l : List LT) (ps : List Nat) (c : BT) (v s : List UInt8), M (bS c) s → M (bV c) v → putF (rowG 124 c l ps) v s = putF c v s
  | [], ps, c, v, s, h, h' => by rw [rowG]
  | x :: l, ps, c, v, s, h, h' => by
    rw [rowG, put_alt1 l _ _ v s (alt_src.2 (.inl h)) (alt_vw.2 (.inl h')), putF, if_pos rfl, if_pos h, if_pos h']
theorem put_alt2 : ∀ (l : List LT) (ps : List Nat) (c : BT) (v s : List UInt8), M (bS c) s → ¬ M (bV c) v → M (bV (rowG 124 c l ps)) v → putF (rowG 124 c l ps) v s = makeF (rowG 124 c l ps) v
  | [], ps, c, v, s, h, h', hv => by rw [rowG] at hv; exact absurd hv h'
  | x :: l, ps, c, v, s, h, h', hv => by
    rw [rowG] at hv ⊢
    rcases Classical.em (M (bV (toB x)) v) with hx | hx
    · rw [put_alt1 l _ _ v s (alt_src.2 (.inl h)) (alt_vw.2 (.inr hx)), make_alt1 l _ _ v (alt_vw.2 (.inr hx)), putF, if_pos rfl, if_pos h, if_neg h']
    · exact put_alt2 l _ _ v s (alt_src.2 (.inl h)) (fun e => (alt_vw.1 e).elim h' hx) hv
theorem put_alt3 : ∀ (l : List LT) (ps : List Nat) (c : BT) (v s : List UInt8) (i : Nat) (t : LT), ¬ M (bS c) s → FstM bS l i t s → M (bV (toB t)) v → putF (rowG 124 c l ps) v s = putF (toB t) v s
  | [], ps, c, v, s, i, t, h, hf, hv => by have := hf.1; simp at this
  | x :: l, ps, c, v, s, 0, t, h, hf, hv => by
    obtain ⟨rfl, h1⟩ := hf.zero
    rw [rowG, put_alt1 l _ _ v s (alt_src.2 (.inr h1)) (alt_vw.2 (.inr hv)), putF, if_pos rfl, if_neg h, if_pos hv]
  | x :: l, ps, c, v, s, i + 1, t, h, hf, hv => by
    obtain ⟨h1, h2⟩ := hf.succ
    rw [rowG]
    exact put_alt3 l _ _ v s i t (fun e => (alt_src.1 e).elim h h1) h2 hv
theorem put_alt4 : ∀ (l : List LT) (ps : List Nat) (c : BT) (v s : List UInt8) (i : Nat) (t : LT), ¬ M (bS c) s → FstM bS l i t s → ¬ M (bV (toB t)) v → M (bV (rowG 124 c l ps)) v → putF (rowG 124 c l ps) v s = makeF (rowG 124 c l ps) v
  | [], ps, c, v, s, i, t, h, hf, hv, hw => by have := hf.1; simp at this
  | x :: l, ps, c, v, s, 0, t, h, hf, hv, hw => by
    obtain ⟨rfl, h1⟩ := hf.zero
    rw [rowG] at hw ⊢
    rcases Classical.em (M (bV c) v) with hc | hc
    · rw [put_alt1 l _ _ v s (alt_src.2 (.inr h1)) (alt_vw.2 (.inl hc)), make_alt1 l _ _ v (alt_vw.2 (.inl hc)), putF, if_pos rfl, if_neg h, if_neg hv]
    · exact put_alt2 l _ _ v s (alt_src.2 (.inr h1)) (fun e => (alt_vw.1 e).elim hc hv) hw
  | x :: l, ps, c, v, s, i + 1, t, h, hf, hv, hw => by
    obtain ⟨h1, h2⟩ := hf.succ
    rw [rowG] at hw ⊢
    exact put_alt4 l _ _ v s i t (fun e => (alt_src.1 e).elim h h1) h2 hv hw
end

/-- of a whole choice -/
theorem get_alts {l : List LT} {ps : List Nat} {i : Nat} {t : LT} {u : List UInt8} (h : FstM bS l i t u) : getF (rowB 124 l ps) u = getF (toB t) u := by
  match l, i, h with
  | [], i, h => have := h.1; simp at this
  | x :: l, 0, h => obtain ⟨rfl, h1⟩ := h.zero; rw [rowB]; exact get_alt1 l ps _ u h1
  | x :: l, i + 1, h => obtain ⟨h1, h2⟩ := h.succ; rw [rowB]; exact get_alt2 l ps _ u i t h1 h2
theorem make_alts {l : List LT} {ps : List Nat} {i : Nat} {t : LT} {u : List UInt8} (h : FstM bV l i t u) : makeF (rowB 124 l ps) u = makeF (toB t) u := by
  match l, i, h with
  | [], i, h => have := h.1; simp at this
  | x :: l, 0, h => obtain ⟨rfl, h1⟩ := h.zero; rw [rowB]; exact make_alt1 l ps _ u h1
  | x :: l, i + 1, h => obtain ⟨h1, h2⟩ := h.succ; rw [rowB]; exact make_alt2 l ps _ u i t h1 h2
theorem vw_alts {x : LT} {l : List LT} {ps : List Nat} {v : List UInt8} : M (bV (rowB 124 (x :: l) ps)) v ↔ ∃ t, t ∈ x :: l ∧ M (bV (toB t)) v := by
  rw [rowB, rowG_vw]
  simp only [List.mem_cons, exists_eq_or_imp]
theorem put_alts_own {l : List LT} {ps : List Nat} {i : Nat} {t : LT} {v s : List UInt8} (h : FstM bS l i t s) (hv : M (bV (toB t)) v) : putF (rowB 124 l ps) v s = putF (toB t) v s := by
  match l, i, h with
  | [], i, h => have := h.1; simp at this
  | x :: l, 0, h => obtain ⟨rfl, h1⟩ := h.zero; rw [rowB]; exact put_alt1 l ps _ v s h1 hv
  | x :: l, i + 1, h => obtain ⟨h1, h2⟩ := h.succ; rw [rowB]; exact put_alt3 l ps _ v s i t h1 h2 hv
theorem put_alts_new {l : List LT} {ps : List Nat} {i m : Nat} {t t' : LT} {v s : List UInt8} (h : FstM bS l i t s) (hv : ¬ M (bV (toB t)) v) (hm : FstM bV l m t' v) : putF (rowB 124 l ps) v s = makeF (toB t') v := by
  rw [← make_alts (ps := ps) hm]
  match l, i, h, hm with
  | [], i, h, _ => have := h.1; simp at this
  | x :: l, 0, h, hm =>
    obtain ⟨rfl, h1⟩ := h.zero
    have hw := vw_alts (ps := ps).2 ⟨t', List.mem_of_getElem? hm.1, hm.2.1⟩
    rw [rowB] at hw ⊢; exact put_alt2 l ps _ v s h1 hv hw
  | x :: l, i + 1, h, hm =>
    obtain ⟨h1, h2⟩ := h.succ
    have hw := vw_alts (ps := ps).2 ⟨t', List.mem_of_getElem? hm.1, hm.2.1⟩
    rw [rowB] at hw ⊢; exact put_alt4 l ps _ v s i t h1 h2 hv hw

end Go.Proofs.YtlljggefbngkeaaGreatDoor

namespace Go.Proofs.YtlljggefbngkeaaGreatDoor
open Go.RowKit




end Go.Proofs.YtlljggefbngkeaaGreatDoor

namespace Go.Proofs.YtlljggefbngkeaaGreatDoor
open Go.RowKit



theorem size_toList (s : ByteArray) : s.data.toList.length = s.size := by rw [Array.length_toList]; rfl





end Go.Proofs.YtlljggefbngkeaaGreatDoor

namespace Go.Proofs.YtlljggefbngkeaaGreatDoor
open Go.RowKit




end Go.Proofs.YtlljggefbngkeaaGreatDoor

namespace Go.Proofs.YtlljggefbngkeaaGreatDoor
open Go.RowKit

theorem firstW_none : ∀ {x : List (List PT × List UInt8 × Nat)}, FirstW x none ↔ ∀ y, y ∈ x → M (.alt y.1) y.2.1
  | [] => by rw [FirstW]; exact ⟨fun _ y hy => (by cases hy), fun _ => rfl⟩
  | (l, d, a) :: r => by
    rw [FirstW, firstW_none (x := r)]
    constructor
    · rintro (⟨h1, h2⟩ | ⟨_, h⟩)
      · intro y hy
        rcases List.mem_cons.1 hy with rfl | hy
        · exact h1
        · exact h2 y hy
      · cases h
    · intro h
      exact .inl ⟨h _ List.mem_cons_self, fun y hy => h y (List.mem_cons_of_mem _ hy)⟩



/-- no node has a witness -/
def NoW (c : BT) : Prop := ∀ c', c' ∈ bsubs c → ∀ u, ¬ BWit c' u


end Go.Proofs.YtlljggefbngkeaaGreatDoor

namespace Go.Proofs.YtlljggefbngkeaaGreatDoor
open Go.RowKit

/-! The document's example: its tree, that it is not wrong, what is seen of it. -/

def pairsB : ByteArray := ⟨#[47, 91, 97, 45, 122, 93, 43, 47, 32, 47, 61, 47, 34, 58, 34, 34, 61, 34, 32, 47, 91, 48, 45, 57, 93, 42, 47, 32, 47, 59, 47, 34, 34, 32, 34, 59, 34]⟩
def pz_pA : List PT := [.seq [.rep 43 (.chr (upto 97 122))]]
def pz_pE : List PT := [.seq [.chr [61]]]
def pz_pD : List PT := [.seq [.rep 42 (.chr (upto 48 57))]]
def pz_pC : List PT := [.seq [.chr [59]]]
def pairsL : List LT := [.same pz_pA 0 8, .fixed pz_pE 9 12 [58] [61] 15, .same pz_pD 19 27, .fixed pz_pC 28 31 [] [59] 34]
def pairsT : LT := .row pairsL [9, 19, 28]

set_option maxRecDepth 100000 in
theorem pairs_rows : gRows pairsB (6 * pairsB.size + 5) 0 = .ok ([pairsT], []) pairsB.size := by
  kernel_rfl

theorem M_one {c : UInt8} {u : List UInt8} : M (.alt [.seq [.chr [c]]]) u ↔ u = [c] := by
  constructor
  · intro h
    cases h with
    | alt h1 h2 =>
      rw [List.mem_singleton] at h1
      subst h1
      cases h2 with
      | seq h3 =>
        obtain ⟨x, y, rfl, h4, h5⟩ := ML_cons.1 h3
        rw [ML_nil] at h5
        subst h5
        cases h4 with
        | chr h6 => rw [List.mem_singleton] at h6; subst h6; rfl
  · rintro rfl
    have := M.seq (ML.cons (M.chr (l := [c]) (c := c) List.mem_cons_self) ML.nil)
    exact .alt List.mem_cons_self this

theorem pairs_tree : TreeOf pairsB pairsT := by
  refine ⟨by decide, ([pairsT], []), pairs_rows, ?_, ?_⟩
  · rw [firstW_none]
    intro y hy
    have : dfltsL [pairsT] = [(pz_pE, [61], 15), (pz_pC, [59], 34)] := by simp [dfltsL, pairsT, pairsL, dflts]
    rw [this] at hy
    rcases List.mem_cons.1 hy with rfl | hy
    · exact M_one.2 rfl
    · rw [List.mem_singleton] at hy
      subst hy
      exact M_one.2 rfl
  · rw [joinAlt]

theorem no_len {A B : PT} {n : Nat} (h : ∀ u, M B u → u.length = n) (u : List UInt8) : ¬ Twice A B u := by
  rintro ⟨w, u1, u2, rfl, hu, _, h2, _, h4⟩
  have a := h _ h2
  have b := h _ h4
  rw [List.length_append] at a
  have := List.length_pos_iff.2 hu
  omega
theorem no_end {A B : PT} {c : UInt8} (hA : ∀ x, M A x → ∃ y, x = y ++ [c]) (hB : ∀ y, M B y → c ∉ y) (u : List UInt8) : ¬ Twice A B u := by
  rintro ⟨w, u1, u2, rfl, hu, _, h2, h3, _⟩
  obtain ⟨y, e⟩ := hA _ h3
  have hl : u1.getLast hu = c := by
    rw [← List.dropLast_concat_getLast hu, ← List.append_assoc] at e
    have := (List.append_inj' e rfl).2
    injection this
  exact hB _ h2 (List.mem_append_left _ (hl ▸ List.getLast_mem hu))

theorem M_digits {u : List UInt8} (h : M (.alt pz_pD) u) : ∀ c, c ∈ u → c ∈ upto 48 57 := by
  cases h with
  | alt h1 h2 =>
    unfold pz_pD at h1
    rw [List.mem_singleton] at h1
    subst h1
    cases h2 with
    | seq h3 =>
      obtain ⟨x, y, rfl, h4, h5⟩ := ML_cons.1 h3
      rw [ML_nil] at h5
      subst h5
      rw [List.append_nil]
      obtain ⟨l, h6, rfl⟩ := (M.star_iff.1 h4).list
      intro c hc
      obtain ⟨z, hz, hcz⟩ := List.mem_flatten.1 hc
      have := h6 z hz
      cases this with
      | chr h7 => rw [List.mem_singleton] at hcz; rw [hcz]; exact h7

def pz_bA : BT := .pat (.alt pz_pA)
def pz_bE : BT := .key (.alt pz_pE) [58] [61]
def pz_bD : BT := .pat (.alt pz_pD)
def pz_bC : BT := .key (.alt pz_pC) [] [59]
def pz_b2 : BT := .two 114 9 pz_bA pz_bE
def pz_b3 : BT := .two 114 19 pz_b2 pz_bD
def pz_b4 : BT := .two 114 28 pz_b3 pz_bC
theorem pairs_toB : toB pairsT = pz_b4 := by
  simp [pairsT, pairsL, toB, rowB, rowG, pz_b4, pz_b3, pz_b2, pz_bA, pz_bE, pz_bD, pz_bC]

theorem pz_n2s : ∀ u, ¬ Twice (bS pz_bA) (bS pz_bE) u := no_len (n := 1) fun u h => by rw [M_one.1 h]; rfl
theorem pz_n2v : ∀ u, ¬ Twice (bV pz_bA) (bV pz_bE) u := no_len (n := 1) fun u h => by rw [M_key.1 h]; rfl
theorem pz_n3s : ∀ u, ¬ Twice (bS pz_b2) (bS pz_bD) u := no_end (c := 61) (fun x h => by
  obtain ⟨y, z, rfl, _, h2⟩ := row_src.1 h
  rw [M_one.1 h2]
  exact ⟨y, rfl⟩) (fun y h e => absurd (M_digits h _ e) (by decide))
theorem pz_n3v : ∀ u, ¬ Twice (bV pz_b2) (bV pz_bD) u := no_end (c := 58) (fun x h => by
  obtain ⟨y, z, rfl, _, h2⟩ := row_vw.1 h
  rw [M_key.1 h2]
  exact ⟨y, rfl⟩) (fun y h e => absurd (M_digits h _ e) (by decide))
theorem pz_n4s : ∀ u, ¬ Twice (bS pz_b3) (bS pz_bC) u := no_len (n := 1) fun u h => by rw [M_one.1 h]; rfl
theorem pz_n4v : ∀ u, ¬ Twice (bV pz_b3) (bV pz_bC) u := no_len (n := 0) fun u h => by rw [M_key.1 h]; rfl
theorem now_row {p : Nat} {a b : BT} (hs : ∀ u, ¬ Twice (bS a) (bS b) u) (hv : ∀ u, ¬ Twice (bV a) (bV b) u) (ha : NoW a) (hb : NoW b) : NoW (.two 114 p a b) := by
  intro c hc u
  rw [bsubs, List.mem_cons, List.mem_append] at hc
  rcases hc with rfl | hc | hc
  · rw [BWit, if_neg (by decide), if_neg (by decide)]
    rintro (h | h)
    · exact hs u h
    · exact hv u h
  · exact ha c hc u
  · exact hb c hc u
theorem now_pat (t : PT) : NoW (.pat t) := fun c hc u => by rw [bsubs, List.mem_singleton] at hc; subst hc; exact id
theorem now_key (t : PT) (v d : List UInt8) : NoW (.key t v d) := fun c hc u => by rw [bsubs, List.mem_singleton] at hc; subst hc; exact id
theorem pairs_now : NoW (toB pairsT) := by
  rw [pairs_toB]
  exact now_row pz_n4s pz_n4v (now_row pz_n3s pz_n3v (now_row pz_n2s pz_n2v (now_pat _) (now_key _ _ _)) (now_pat _)) (now_key _ _ _)

theorem pz_m_ab : M (.alt pz_pA) [97, 98] := .alt List.mem_cons_self (M.seq (ML.cons (M.plus (M.chr (c := 97) (by decide)) (MS.cons (M.chr (c := 98) (by decide)) MS.nil)) ML.nil))
theorem pz_m_c : M (.alt pz_pA) [99] := .alt List.mem_cons_self (M.seq (ML.cons (M.plus (M.chr (c := 99) (by decide)) MS.nil) ML.nil))
theorem pz_m_12 : M (.alt pz_pD) [49, 50] := .alt List.mem_cons_self (M.seq (ML.cons (M.star (MS.cons (M.chr (c := 49) (by decide)) (MS.cons (M.chr (c := 50) (by decide)) MS.nil))) ML.nil))
theorem pz_m_7 : M (.alt pz_pD) [55] := .alt List.mem_cons_self (M.seq (ML.cons (M.star (MS.cons (M.chr (c := 55) (by decide)) MS.nil)) ML.nil))

theorem pz_s2 : M (bS pz_b2) ([97, 98] ++ [61]) := row_src.2 ⟨_, _, rfl, pz_m_ab, M_one.2 rfl⟩
theorem pz_s3 : M (bS pz_b3) (([97, 98] ++ [61]) ++ [49, 50]) := row_src.2 ⟨_, _, rfl, pz_s2, pz_m_12⟩
theorem pz_s4 : M (bS pz_b4) ((([97, 98] ++ [61]) ++ [49, 50]) ++ [59]) := row_src.2 ⟨_, _, rfl, pz_s3, M_one.2 rfl⟩
theorem pz_v2 : M (bV pz_b2) ([99] ++ [58]) := row_vw.2 ⟨_, _, rfl, pz_m_c, M_key.2 rfl⟩
theorem pz_v3 : M (bV pz_b3) (([99] ++ [58]) ++ [55]) := row_vw.2 ⟨_, _, rfl, pz_v2, pz_m_7⟩
theorem pz_v4 : M (bV pz_b4) ((([99] ++ [58]) ++ [55]) ++ []) := row_vw.2 ⟨_, _, rfl, pz_v3, M_key.2 rfl⟩

/-- ab=12; is a source, c:7 is a view -/
theorem pairs_src : M (bS (toB pairsT)) [97, 98, 61, 49, 50, 59] := by rw [pairs_toB]; exact pz_s4
theorem pairs_vw : M (bV (toB pairsT)) [99, 58, 55] := by rw [pairs_toB]; exact pz_v4
theorem pz_e_src : ([97, 98, 61, 49, 50, 59] : List UInt8) = (([97, 98] ++ [61]) ++ [49, 50]) ++ [59] := rfl
theorem pz_e_vw : ([99, 58, 55] : List UInt8) = (([99] ++ [58]) ++ [55]) ++ [] := rfl
theorem pz_gA (u : List UInt8) : getF pz_bA u = u := by rw [pz_bA, getF]
theorem pz_gE (u : List UInt8) : getF pz_bE u = [58] := by rw [pz_bE, getF]
theorem pz_gD (u : List UInt8) : getF pz_bD u = u := by rw [pz_bD, getF]
theorem pz_gC (u : List UInt8) : getF pz_bC u = [] := by rw [pz_bC, getF]
theorem pz_kA (u : List UInt8) : makeF pz_bA u = u := by rw [pz_bA, makeF]
theorem pz_kE (u : List UInt8) : makeF pz_bE u = [61] := by rw [pz_bE, makeF]
theorem pz_kD (u : List UInt8) : makeF pz_bD u = u := by rw [pz_bD, makeF]
theorem pz_kC (u : List UInt8) : makeF pz_bC u = [59] := by rw [pz_bC, makeF]
theorem pz_tA (v u : List UInt8) : putF pz_bA v u = v := by rw [pz_bA, putF]
theorem pz_tE (v u : List UInt8) : putF pz_bE v u = u := by rw [pz_bE, putF]
theorem pz_tD (v u : List UInt8) : putF pz_bD v u = v := by rw [pz_bD, putF]
theorem pz_tC (v u : List UInt8) : putF pz_bC v u = u := by rw [pz_bC, putF]
theorem pairs_get : getF (toB pairsT) [97, 98, 61, 49, 50, 59] = [97, 98, 58, 49, 50] := by
  rw [pairs_toB, pz_e_src, pz_b4, get_row pz_n4s pz_s3 (M_one.2 rfl), pz_b3, get_row pz_n3s pz_s2 pz_m_12, pz_b2, get_row pz_n2s pz_m_ab (M_one.2 rfl), pz_gA, pz_gE, pz_gD, pz_gC]
  rfl
theorem pairs_make : makeF (toB pairsT) [99, 58, 55] = [99, 61, 55, 59] := by
  rw [pairs_toB, pz_e_vw, pz_b4, make_rowz pz_n4v pz_v3 (M_key.2 rfl), pz_b3, make_rowz pz_n3v pz_v2 pz_m_7, pz_b2, make_rowz pz_n2v pz_m_c (M_key.2 rfl), pz_kA, pz_kE, pz_kD, pz_kC]
  rfl
theorem pairs_put : putF (toB pairsT) [99, 58, 55] [97, 98, 61, 49, 50, 59] = [99, 61, 55, 59] := by
  rw [pairs_toB, pz_e_vw, pz_e_src, pz_b4, put_rowz pz_n4s pz_n4v pz_s3 (M_one.2 rfl) pz_v3 (M_key.2 rfl), pz_b3, put_rowz pz_n3s pz_n3v pz_s2 pz_m_12 pz_v2 pz_m_7, pz_b2, put_rowz pz_n2s pz_n2v pz_m_ab (M_one.2 rfl) pz_m_c (M_key.2 rfl), pz_tA, pz_tE, pz_tD, pz_tC]
  rfl

end Go.Proofs.YtlljggefbngkeaaGreatDoor
