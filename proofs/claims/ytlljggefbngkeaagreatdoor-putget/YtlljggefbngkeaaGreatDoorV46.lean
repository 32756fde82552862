import Derived.Test.YtlljggefbngkeaaGreatDoorV32
import Derived.Test.YtlljggefbngkeaaGreatDoorV11
import Derived.Test.YtlljggefbngkeaaGreatDoorV33
namespace Go.Proofs.YtlljggefbngkeaaGreatDoor
open Go.RowKit



theorem pcF_flat {A : PT} (h0 : ¬ M A []) (hn : ∀ u, u ≠ [] → ¬ Ways2 A u) (l : List (List UInt8)) (hl : ∀ x, x ∈ l → M A x) : pcF A l.flatten = l := by
  have hs : M (.rep 42 A) l.flatten := M.star (MS.of_list l hl)
  obtain ⟨h1, h2⟩ := pcF_spec h0 hs
  rcases Classical.em (l.flatten = []) with e | e
  · match l, hl, e with
    | [], _, _ => exact pcF_nil A
    | x :: l, hl, e =>
      rw [List.flatten_cons] at e
      have : x = [] := (List.append_eq_nil_iff.1 e).1
      exact absurd (this ▸ hl x List.mem_cons_self) h0
  · rcases Classical.em (pcF A l.flatten = l) with e2 | e2
    · exact e2
    · exact absurd (rows_ways h0 ⟨_, _, e2, fun x hx => (h1 x hx).1, hl, h2, rfl⟩) (hn _ e)


/-- no node has a witness; the defaults are texts of their patterns -/
def bOK : BT → Prop
  | .pat _ => True
  | .key t _ d => M t d
  | .two kd p a b => (kd = 114 ∨ kd = 124 ∨ kd = 126) ∧ (∀ u, ¬ BWit (.two kd p a b) u) ∧ bOK a ∧ bOK b
  | .star p a => (∀ u, ¬ BWit (.star p a) u) ∧ bOK a

structure Trip (c : BT) : Prop where
  seen : ∀ s, M (bS c) s → M (bV c) (getF c s)
  made : ∀ v, M (bV c) v → M (bS c) (makeF c v)
  laid : ∀ v s, M (bV c) v → M (bS c) s → M (bS c) (putF c v s)
  getPut : ∀ s, M (bS c) s → putF c (getF c s) s = s
  makeGet : ∀ v, M (bV c) v → getF c (makeF c v) = v
  putGet : ∀ v s, M (bV c) v → M (bS c) s → getF c (putF c v s) = v

theorem Trip.pat (t : PT) : Trip (.pat t) where
  seen := fun s h => by rw [getF]; exact h
  made := fun s h => by rw [makeF]; exact h
  laid := fun v s h _ => by rw [putF]; exact h
  getPut := fun s _ => by rw [putF, getF]
  makeGet := fun v _ => by rw [makeF, getF]
  putGet := fun v s _ _ => by rw [putF, getF]
theorem Trip.key {t : PT} {v d : List UInt8} (hd : M t d) : Trip (.key t v d) where
  seen := fun s h => by rw [getF]; exact M_key.2 rfl
  made := fun s h => by rw [makeF]; exact hd
  laid := fun v s h h' => by rw [putF]; exact h'
  getPut := fun s _ => by rw [putF]
  makeGet := fun u h => by rw [getF]; exact (M_key.1 h).symm
  putGet := fun u s h _ => by rw [getF]; exact (M_key.1 h).symm

section
variable {p : Nat} {a b : BT}

theorem swap_src {u : List UInt8} : M (bS (.two 126 p a b)) u ↔ ∃ x y, u = x ++ y ∧ M (bS a) x ∧ M (bS b) y := by
  rw [bS, if_neg (by decide)]; exact M_seq2
theorem swap_vw {u : List UInt8} : M (bV (.two 126 p a b)) u ↔ ∃ y x, u = y ++ x ∧ M (bV b) y ∧ M (bV a) x := by
  rw [bV, if_neg (by decide), if_pos rfl]; exact M_seq2

theorem get_swap (hn : ∀ u, ¬ Twice (bS a) (bS b) u) {x y : List UInt8} (hx : M (bS a) x) (hy : M (bS b) y) : getF (.two 126 p a b) (x ++ y) = getF b y ++ getF a x := by
  rw [getF, if_neg (by decide), if_pos rfl, cut_app hn hx hy, List.take_left, List.drop_left]
theorem make_swapz (hn : ∀ u, ¬ Twice (bV b) (bV a) u) {x y : List UInt8} (hx : M (bV a) x) (hy : M (bV b) y) : makeF (.two 126 p a b) (y ++ x) = makeF a x ++ makeF b y := by
  rw [makeF, if_neg (by decide), if_pos rfl, cut_app hn hy hx, List.take_left, List.drop_left]
theorem put_swapz (hn : ∀ u, ¬ Twice (bS a) (bS b) u) (hm : ∀ u, ¬ Twice (bV b) (bV a) u) {x y v w : List UInt8} (hx : M (bS a) x) (hy : M (bS b) y) (hv : M (bV a) v) (hw : M (bV b) w) : putF (.two 126 p a b) (w ++ v) (x ++ y) = putF a v x ++ putF b w y := by
  rw [putF, if_neg (by decide), if_pos rfl, cut_app hn hx hy, cut_app hm hw hv, List.take_left, List.drop_left, List.take_left, List.drop_left]

theorem Trip.row (ha : Trip a) (hb : Trip b) (hw : ∀ u, ¬ BWit (.two 114 p a b) u) : Trip (.two 114 p a b) := by
  have hn : ∀ u, ¬ Twice (bS a) (bS b) u := fun u h => hw u (by rw [BWit, if_neg (by decide)]; exact .inl h)
  have hm : ∀ u, ¬ Twice (bV a) (bV b) u := fun u h => hw u (by rw [BWit, if_neg (by decide), if_neg (by decide)]; exact .inr h)
  refine ⟨fun s h => ?_, fun v h => ?_, fun v s h h' => ?_, fun s h => ?_, fun v h => ?_, fun v s h h' => ?_⟩
  · obtain ⟨x, y, rfl, hx, hy⟩ := row_src.1 h
    rw [get_row hn hx hy]
    exact row_vw.2 ⟨_, _, rfl, ha.seen _ hx, hb.seen _ hy⟩
  · obtain ⟨x, y, rfl, hx, hy⟩ := row_vw.1 h
    rw [make_rowz hm hx hy]
    exact row_src.2 ⟨_, _, rfl, ha.made _ hx, hb.made _ hy⟩
  · obtain ⟨v1, v2, rfl, hv1, hv2⟩ := row_vw.1 h
    obtain ⟨x, y, rfl, hx, hy⟩ := row_src.1 h'
    rw [put_rowz hn hm hx hy hv1 hv2]
    exact row_src.2 ⟨_, _, rfl, ha.laid _ _ hv1 hx, hb.laid _ _ hv2 hy⟩
  · obtain ⟨x, y, rfl, hx, hy⟩ := row_src.1 h
    rw [get_row hn hx hy, put_rowz hn hm hx hy (ha.seen _ hx) (hb.seen _ hy), ha.getPut _ hx, hb.getPut _ hy]
  · obtain ⟨x, y, rfl, hx, hy⟩ := row_vw.1 h
    rw [make_rowz hm hx hy, get_row hn (ha.made _ hx) (hb.made _ hy), ha.makeGet _ hx, hb.makeGet _ hy]
  · obtain ⟨v1, v2, rfl, hv1, hv2⟩ := row_vw.1 h
    obtain ⟨x, y, rfl, hx, hy⟩ := row_src.1 h'
    rw [put_rowz hn hm hx hy hv1 hv2, get_row hn (ha.laid _ _ hv1 hx) (hb.laid _ _ hv2 hy), ha.putGet _ _ hv1 hx, hb.putGet _ _ hv2 hy]
theorem Trip.swap (ha : Trip a) (hb : Trip b) (hw : ∀ u, ¬ BWit (.two 126 p a b) u) : Trip (.two 126 p a b) := by
  have hn : ∀ u, ¬ Twice (bS a) (bS b) u := fun u h => hw u (by rw [BWit, if_neg (by decide)]; exact .inl h)
  have hm : ∀ u, ¬ Twice (bV b) (bV a) u := fun u h => hw u (by rw [BWit, if_neg (by decide), if_pos rfl]; exact .inr h)
  refine ⟨fun s h => ?_, fun v h => ?_, fun v s h h' => ?_, fun s h => ?_, fun v h => ?_, fun v s h h' => ?_⟩
  · obtain ⟨x, y, rfl, hx, hy⟩ := swap_src.1 h
    rw [get_swap hn hx hy]
    exact swap_vw.2 ⟨_, _, rfl, hb.seen _ hy, ha.seen _ hx⟩
  · obtain ⟨y, x, rfl, hy, hx⟩ := swap_vw.1 h
    rw [make_swapz hm hx hy]
    exact swap_src.2 ⟨_, _, rfl, ha.made _ hx, hb.made _ hy⟩
  · obtain ⟨v2, v1, rfl, hv2, hv1⟩ := swap_vw.1 h
    obtain ⟨x, y, rfl, hx, hy⟩ := swap_src.1 h'
    rw [put_swapz hn hm hx hy hv1 hv2]
    exact swap_src.2 ⟨_, _, rfl, ha.laid _ _ hv1 hx, hb.laid _ _ hv2 hy⟩
  · obtain ⟨x, y, rfl, hx, hy⟩ := swap_src.1 h
    rw [get_swap hn hx hy, put_swapz hn hm hx hy (ha.seen _ hx) (hb.seen _ hy), ha.getPut _ hx, hb.getPut _ hy]
  · obtain ⟨y, x, rfl, hy, hx⟩ := swap_vw.1 h
    rw [make_swapz hm hx hy, get_swap hn (ha.made _ hx) (hb.made _ hy), ha.makeGet _ hx, hb.makeGet _ hy]
  · obtain ⟨v2, v1, rfl, hv2, hv1⟩ := swap_vw.1 h
    obtain ⟨x, y, rfl, hx, hy⟩ := swap_src.1 h'
    rw [put_swapz hn hm hx hy hv1 hv2, get_swap hn (ha.laid _ _ hv1 hx) (hb.laid _ _ hv2 hy), ha.putGet _ _ hv1 hx, hb.putGet _ _ hv2 hy]

theorem Trip.alt (ha : Trip a) (hb : Trip b) (hw : ∀ u, ¬ BWit (.two 124 p a b) u) : Trip (.two 124 p a b) := by
  have hn : ∀ u, M (bS a) u → ¬ M (bS b) u := fun u h h' => hw u (by rw [BWit, if_pos rfl]; exact ⟨h, h'⟩)
  have g1 : ∀ u, M (bS a) u → getF (.two 124 p a b) u = getF a u := fun u h => by rw [getF, if_pos rfl, if_pos h]
  have g2 : ∀ u, M (bS b) u → getF (.two 124 p a b) u = getF b u := fun u h => by rw [getF, if_pos rfl, if_neg (fun h' => hn u h' h)]
  have made : ∀ v, M (bV (.two 124 p a b)) v → M (bS (.two 124 p a b)) (makeF (.two 124 p a b) v) ∧ getF (.two 124 p a b) (makeF (.two 124 p a b) v) = v := fun v h => by
    rw [makeF, if_pos rfl]
    split
    · rename_i h1
      exact ⟨alt_src.2 (.inl (ha.made _ h1)), by rw [g1 _ (ha.made _ h1), ha.makeGet _ h1]⟩
    · rename_i h1
      have h2 := (alt_vw.1 h).resolve_left h1
      exact ⟨alt_src.2 (.inr (hb.made _ h2)), by rw [g2 _ (hb.made _ h2), hb.makeGet _ h2]⟩
  have laid : ∀ v s, M (bV (.two 124 p a b)) v → M (bS (.two 124 p a b)) s → M (bS (.two 124 p a b)) (putF (.two 124 p a b) v s) ∧ getF (.two 124 p a b) (putF (.two 124 p a b) v s) = v := fun v s h h' => by
    rw [putF, if_pos rfl]
    split
    · rename_i h1
      split
      · rename_i h2
        exact ⟨alt_src.2 (.inl (ha.laid _ _ h2 h1)), by rw [g1 _ (ha.laid _ _ h2 h1), ha.putGet _ _ h2 h1]⟩
      · exact made v h
    · rename_i h1
      have h3 := (alt_src.1 h').resolve_left h1
      split
      · rename_i h2
        exact ⟨alt_src.2 (.inr (hb.laid _ _ h2 h3)), by rw [g2 _ (hb.laid _ _ h2 h3), hb.putGet _ _ h2 h3]⟩
      · exact made v h
  refine ⟨fun s h => ?_, fun v h => (made v h).1, fun v s h h' => (laid v s h h').1, fun s h => ?_, fun v h => (made v h).2, fun v s h h' => (laid v s h h').2⟩
  · rcases alt_src.1 h with h | h
    · rw [g1 _ h]; exact alt_vw.2 (.inl (ha.seen _ h))
    · rw [g2 _ h]; exact alt_vw.2 (.inr (hb.seen _ h))
  · rcases alt_src.1 h with h | h
    · rw [g1 _ h, putF, if_pos rfl, if_pos h, if_pos (ha.seen _ h), ha.getPut _ h]
    · rw [g2 _ h, putF, if_pos rfl, if_neg (fun h' => hn _ h' h), if_pos (hb.seen _ h), hb.getPut _ h]
end

/-- the pieces that rowPutF lays one behind the other -/
def rowPutL (f : List UInt8 → List UInt8 → List UInt8) (g : List UInt8 → List UInt8) : List (List UInt8) → List (List UInt8) → List (List UInt8)
  | [], _ => []
  | p :: ps, [] => g p :: rowPutL f g ps []
  | p :: ps, q :: qs => f p q :: rowPutL f g ps qs
theorem rowPut_flat (f : List UInt8 → List UInt8 → List UInt8) (g : List UInt8 → List UInt8) : ∀ ps qs, rowPutF f g ps qs = (rowPutL f g ps qs).flatten
  | [], _ => by rw [rowPutF, rowPutL]; rfl
  | p :: ps, [] => by rw [rowPutF, rowPutL, List.flatten_cons, rowPut_flat f g ps []]
  | p :: ps, q :: qs => by rw [rowPutF, rowPutL, List.flatten_cons, rowPut_flat f g ps qs]

theorem Trip.star {p : Nat} {a : BT} (ha : Trip a) (hw : ∀ u, ¬ BWit (.star p a) u) : Trip (.star p a) := by
  have h0s : ¬ M (bS a) [] := fun h => hw [] (by rw [BWit, if_pos rfl]; exact .inl h)
  have h0v : ¬ M (bV a) [] := fun h => hw [] (by rw [BWit, if_pos rfl]; exact .inr h)
  have hs : ∀ u, u ≠ [] → ¬ Ways2 (bS a) u := fun u hu h => hw u (by rw [BWit, if_neg hu]; exact .inl h)
  have hv : ∀ u, u ≠ [] → ¬ Ways2 (bV a) u := fun u hu h => hw u (by rw [BWit, if_neg hu]; exact .inr h)
  have src : ∀ s, M (bS (.star p a)) s → ∃ l : List (List UInt8), (∀ x, x ∈ l → M (bS a) x) ∧ s = l.flatten := fun s h => by
    rw [bS] at h
    obtain ⟨l, h1, h2⟩ := (M.star_iff.1 h).list
    exact ⟨l, h1, h2.symm⟩
  have vw : ∀ v, M (bV (.star p a)) v → ∃ l : List (List UInt8), (∀ x, x ∈ l → M (bV a) x) ∧ v = l.flatten := fun v h => by
    rw [bV] at h
    obtain ⟨l, h1, h2⟩ := (M.star_iff.1 h).list
    exact ⟨l, h1, h2.symm⟩
  have src' : ∀ l : List (List UInt8), (∀ x, x ∈ l → M (bS a) x) → M (bS (.star p a)) l.flatten := fun l h => by rw [bS]; exact M.star (MS.of_list l h)
  have vw' : ∀ l : List (List UInt8), (∀ x, x ∈ l → M (bV a) x) → M (bV (.star p a)) l.flatten := fun l h => by rw [bV]; exact M.star (MS.of_list l h)
  have gt : ∀ l : List (List UInt8), (∀ x, x ∈ l → M (bS a) x) → getF (.star p a) l.flatten = (l.map (getF a)).flatten := fun l h => by
    rw [getF, pcF_flat h0s hs l h, List.flatMap_def]
  have mk : ∀ l : List (List UInt8), (∀ x, x ∈ l → M (bV a) x) → makeF (.star p a) l.flatten = (l.map (makeF a)).flatten := fun l h => by
    rw [makeF, pcF_flat h0v hv l h, List.flatMap_def]
  have pt : ∀ l k : List (List UInt8), (∀ x, x ∈ l → M (bV a) x) → (∀ x, x ∈ k → M (bS a) x) → putF (.star p a) l.flatten k.flatten = (rowPutL (putF a) (makeF a) l k).flatten := fun l k h h' => by
    rw [putF, pcF_flat h0v hv l h, pcF_flat h0s hs k h', rowPut_flat]
  have mapM : ∀ (l : List (List UInt8)), (∀ x, x ∈ l → M (bS a) x) → ∀ x, x ∈ l.map (getF a) → M (bV a) x := fun l h x hx => by
    obtain ⟨y, hy, rfl⟩ := List.mem_map.1 hx
    exact ha.seen _ (h y hy)
  have mapK : ∀ (l : List (List UInt8)), (∀ x, x ∈ l → M (bV a) x) → ∀ x, x ∈ l.map (makeF a) → M (bS a) x := fun l h x hx => by
    obtain ⟨y, hy, rfl⟩ := List.mem_map.1 hx
    exact ha.made _ (h y hy)
  have mapG : ∀ (l : List (List UInt8)), (∀ x, x ∈ l → M (bV a) x) → (l.map (makeF a)).map (getF a) = l := fun l h => by
    rw [List.map_map]
    conv => rhs; rw [← List.map_id l]
    exact List.map_congr_left fun x hx => ha.makeGet _ (h x hx)
  have putS : ∀ (l k : List (List UInt8)), (∀ x, x ∈ l → M (bV a) x) → (∀ x, x ∈ k → M (bS a) x) → (∀ x, x ∈ rowPutL (putF a) (makeF a) l k → M (bS a) x) ∧ (rowPutL (putF a) (makeF a) l k).map (getF a) = l := fun l => by
    induction l with
    | nil => intro k _ _; rw [rowPutL]; exact ⟨fun x hx => (by cases hx), rfl⟩
    | cons y l ih =>
      intro k h h'
      have hy := h y List.mem_cons_self
      have hl : ∀ x, x ∈ l → M (bV a) x := fun x hx => h x (List.mem_cons_of_mem _ hx)
      cases k with
      | nil =>
        obtain ⟨i1, i2⟩ := ih [] hl (fun x hx => (by cases hx))
        rw [rowPutL]
        refine ⟨fun x hx => ?_, by rw [List.map_cons, i2, ha.makeGet _ hy]⟩
        rcases List.mem_cons.1 hx with rfl | hx
        · exact ha.made _ hy
        · exact i1 x hx
      | cons z k =>
        have hz := h' z List.mem_cons_self
        obtain ⟨i1, i2⟩ := ih k hl (fun x hx => h' x (List.mem_cons_of_mem _ hx))
        rw [rowPutL]
        refine ⟨fun x hx => ?_, by rw [List.map_cons, i2, ha.putGet _ _ hy hz]⟩
        rcases List.mem_cons.1 hx with rfl | hx
        · exact ha.laid _ _ hy hz
        · exact i1 x hx
  have putB : ∀ (k : List (List UInt8)), (∀ x, x ∈ k → M (bS a) x) → rowPutL (putF a) (makeF a) (k.map (getF a)) k = k := fun k => by
    induction k with
    | nil => intro _; rfl
    | cons z k ih =>
      intro h
      rw [List.map_cons, rowPutL, ih (fun x hx => h x (List.mem_cons_of_mem _ hx)), ha.getPut _ (h z List.mem_cons_self)]
  refine ⟨fun s h => ?_, fun v h => ?_, fun v s h h' => ?_, fun s h => ?_, fun v h => ?_, fun v s h h' => ?_⟩
  · obtain ⟨l, hl, rfl⟩ := src s h
    rw [gt l hl]; exact vw' _ (mapM l hl)
  · obtain ⟨l, hl, rfl⟩ := vw v h
    rw [mk l hl]; exact src' _ (mapK l hl)
  · obtain ⟨l, hl, rfl⟩ := vw v h
    obtain ⟨k, hk, rfl⟩ := src s h'
    rw [pt l k hl hk]; exact src' _ (putS l k hl hk).1
  · obtain ⟨l, hl, rfl⟩ := src s h
    rw [gt l hl, pt _ l (mapM l hl) hl, putB l hl]
  · obtain ⟨l, hl, rfl⟩ := vw v h
    rw [mk l hl, gt _ (mapK l hl), mapG l hl]
  · obtain ⟨l, hl, rfl⟩ := vw v h
    obtain ⟨k, hk, rfl⟩ := src s h'
    rw [pt l k hl hk, gt _ (putS l k hl hk).1, (putS l k hl hk).2]

theorem trips : ∀ c : BT, bOK c → Trip c
  | .pat t, _ => Trip.pat t
  | .key t v d, h => Trip.key h
  | .two kd p a b, h => by
    obtain ⟨hk, hw, h1, h2⟩ := h
    have ha := trips a h1
    have hb := trips b h2
    rcases hk with rfl | rfl | rfl
    · exact Trip.row ha hb hw
    · exact Trip.alt ha hb hw
    · exact Trip.swap ha hb hw
  | .star p a, h => Trip.star (trips a h.2) h.1

end Go.Proofs.YtlljggefbngkeaaGreatDoor

namespace Go.Proofs.YtlljggefbngkeaaGreatDoor
open Go.RowKit





/-- kinds as they must be; the defaults are texts of their patterns -/
def bKD : BT → Prop
  | .pat _ => True
  | .key t _ d => M t d
  | .two kd _ a b => (kd = 114 ∨ kd = 124 ∨ kd = 126) ∧ bKD a ∧ bKD b
  | .star _ a => bKD a
theorem bOK_of : ∀ c : BT, bKD c → NoW c → bOK c
  | .pat t, _, _ => trivial
  | .key t v d, h, _ => h
  | .two kd p a b, h, hw => ⟨h.1, hw _ (bsubs_self _), bOK_of a h.2.1 (fun c hc => hw c (by rw [bsubs]; exact List.mem_cons_of_mem _ (List.mem_append_left _ hc))), bOK_of b h.2.2 (fun c hc => hw c (by rw [bsubs]; exact List.mem_cons_of_mem _ (List.mem_append_right _ hc)))⟩
  | .star p a, h, hw => ⟨hw _ (bsubs_self _), bOK_of a h (fun c hc => hw c (by rw [bsubs]; exact List.mem_cons_of_mem _ hc))⟩
mutual
theorem toB_kd : ∀ t : LT, (∀ y, y ∈ dflts t → M (.alt y.1) y.2.1) → bKD (toB t)
  | .same l i j, h => by rw [toB]; trivial
  | .fixed l i j v d a, h => by rw [toB]; exact h (l, d, a) (by rw [dflts]; exact List.mem_cons_self)
  | .swap p a b, h => by
    rw [dflts] at h
    rw [toB]
    exact ⟨.inr (.inr rfl), toB_kd a (fun y hy => h y (List.mem_append_left _ hy)), toB_kd b (fun y hy => h y (List.mem_append_right _ hy))⟩
  | .group a, h => by rw [dflts] at h; rw [toB]; exact toB_kd a h
  | .many p a, h => by rw [dflts] at h; rw [toB]; exact toB_kd a h
  | .row l ps, h => by rw [dflts] at h; rw [toB]; exact rowB_kd (.inl rfl) l ps h
  | .choice l ps, h => by rw [dflts] at h; rw [toB]; exact rowB_kd (.inr (.inl rfl)) l ps h
theorem rowB_kd {kd : Int} (hk : kd = 114 ∨ kd = 124 ∨ kd = 126) : ∀ (l : List LT) (ps : List Nat), (∀ y, y ∈ dfltsL l → M (.alt y.1) y.2.1) → bKD (rowB kd l ps)
  | [], ps, _ => by rw [rowB]; trivial
  | t :: l, ps, h => by
    rw [dfltsL] at h
    rw [rowB]
    exact rowG_kd hk l (toB t) ps (toB_kd t (fun y hy => h y (List.mem_append_left _ hy))) (fun y hy => h y (List.mem_append_right _ hy))
theorem rowG_kd {kd : Int} (hk : kd = 114 ∨ kd = 124 ∨ kd = 126) : ∀ (l : List LT) (c : BT) (ps : List Nat), bKD c → (∀ y, y ∈ dfltsL l → M (.alt y.1) y.2.1) → bKD (rowG kd c l ps)
  | [], c, ps, hc, _ => by rw [rowG]; exact hc
  | t :: l, c, ps, hc, h => by
    rw [dfltsL] at h
    rw [rowG]
    exact rowG_kd hk l _ ps.tail ⟨hk, hc, toB_kd t (fun y hy => h y (List.mem_append_left _ hy))⟩ (fun y hy => h y (List.mem_append_right _ hy))
end
theorem dflts_jAz (l : List LT) (ps : List Nat) : dflts (joinAlt l ps) = dfltsL l := by
  match l with
  | [] => rw [joinAlt, dflts]; simp
  | [t] => rw [joinAlt, dfltsL, dfltsL, List.append_nil]
  | t :: u :: l => rw [joinAlt, dflts]; simp
theorem tree_trip {s : ByteArray} {t : LT} (h : TreeOf s t) (hw : NoW (toB t)) : Trip (toB t) := by
  obtain ⟨_, x, _, hF, rfl⟩ := h
  refine trips _ (bOK_of _ (toB_kd _ ?_) hw)
  rw [dflts_jAz]
  exact firstW_none.1 hF

end Go.Proofs.YtlljggefbngkeaaGreatDoor
