import Derived.Test.YtlljggefbngkeaaGreatDoorU12
namespace Go.Proofs.YtlljggefbngkeaaGreatDoor
open Go.RowKit

/-! A lens as the reference lays it: of two, of one, of none; and where its nodes lie. -/

inductive BT where
  | pat (t : PT)
  | key (t : PT) (v d : List UInt8)
  | two (kd : Int) (at_ : Nat) (a b : BT)
  | star (at_ : Nat) (a : BT)

/-- the pattern of its sources -/
def bS : BT → PT
  | .pat t => t
  | .key t _ _ => t
  | .two kd _ a b => if kd = 124 then .alt [bS a, bS b] else .seq [bS a, bS b]
  | .star _ a => .rep 42 (bS a)
/-- the pattern of its views -/
def bV : BT → PT
  | .pat t => t
  | .key _ v _ => .alt [.seq (v.map fun c => .chr [c])]
  | .two kd _ a b => if kd = 124 then .alt [bV a, bV b] else if kd = 126 then .seq [bV b, bV a] else .seq [bV a, bV b]
  | .star _ a => .rep 42 (bV a)
/-- a lens and those within it -/
def bsubs : BT → List BT
  | .pat t => [.pat t]
  | .key t v d => [.key t v d]
  | .two kd p a b => .two kd p a b :: (bsubs a ++ bsubs b)
  | .star p a => .star p a :: bsubs a
theorem bsubs_self (b : BT) : b ∈ bsubs b := by cases b <;> simp [bsubs]

/-- its patterns are ones that Ends takes -/
def bw (b : BT) : Prop := fresh (bS b) = true ∧ fresh (bV b) = true ∧ wf (bS b) = true ∧ wf (bV b) = true

theorem wfL_chrs : ∀ v : List UInt8, wfL (v.map fun c => PT.chr [c]) = true
  | [] => by rw [List.map_nil, wfL]
  | c :: v => by rw [List.map_cons, wfL, wfL_chrs v, wf]; simp
theorem bw_pat {t : PT} (h1 : fresh t = true) (h2 : wf t = true) : bw (.pat t) := ⟨h1, h1, h2, h2⟩
theorem bw_key {t : PT} (h1 : fresh t = true) (h2 : wf t = true) (v d : List UInt8) : bw (.key t v d) := ⟨h1, by rw [bV, fresh], h2, by rw [bV, wf, wfL, wfL, wf, wfL_chrs]; rfl⟩
theorem bw_two {a b : BT} (ha : bw a) (hb : bw b) (kd : Int) (p : Nat) : bw (.two kd p a b) := by
  obtain ⟨a1, a2, a3, a4⟩ := ha
  obtain ⟨b1, b2, b3, b4⟩ := hb
  refine ⟨?_, ?_, ?_, ?_⟩
  · rw [bS]; split <;> simp [fresh, freshL, a1]
  · rw [bV]; split
    · simp [fresh]
    · split <;> simp [fresh, freshL, a2, b2]
  · rw [bS]; split <;> simp [wf, wfL, a3, b3]
  · rw [bV]; split
    · simp [wf, wfL, a4, b4]
    · split <;> simp [wf, wfL, a4, b4]
theorem bw_star {a : BT} (ha : bw a) (p : Nat) : bw (.star p a) := by
  obtain ⟨a1, a2, a3, a4⟩ := ha
  refine ⟨?_, ?_, ?_, ?_⟩ <;> simp [bS, bV, fresh, wf, a1, a2, a3, a4]

/-- a node's own patterns -/
def LN1 (P : List Pat) (b : BT) (l : Lns) : Prop := bw b ∧ PRep P (bS b) l.s ∧ PRep P (bV b) l.v
theorem LN1.mono {P Q : List Pat} {b : BT} {l : Lns} (h : LN1 P b l) : LN1 (P ++ Q) b l := ⟨h.1, PRep_mono h.2.1, PRep_mono h.2.2⟩

/-- node k stands for the lens -/
def LN (P : List Pat) (L : List Lns) : BT → Nat → Prop
  | .pat t, k => ∃ l, L[k]? = some l ∧ LN1 P (.pat t) l ∧ l.kind = 112
  | .key t v d, k => ∃ l, L[k]? = some l ∧ LN1 P (.key t v d) l ∧ l.kind = 107 ∧ l.view = txt v ∧ l.dflt = txt d
  | .two kd p a b, k => ∃ l, L[k]? = some l ∧ LN1 P (.two kd p a b) l ∧ l.kind = kd ∧ (kd = 114 ∨ kd = 124 ∨ kd = 126) ∧ l.at_ = p ∧ LN P L a l.a ∧ LN P L b l.b
  | .star p a, k => ∃ l, L[k]? = some l ∧ LN1 P (.star p a) l ∧ l.kind = 42 ∧ l.at_ = p ∧ LN P L a l.a

theorem LN.mono {P Q : List Pat} {L R : List Lns} : ∀ {b : BT} {k : Nat}, LN P L b k → LN (P ++ Q) (L ++ R) b k
  | .pat t, k, h => by
    obtain ⟨l, h1, h2, h3⟩ := h
    exact ⟨l, at_mono h1, h2.mono, h3⟩
  | .key t v d, k, h => by
    obtain ⟨l, h1, h2, h3⟩ := h
    exact ⟨l, at_mono h1, h2.mono, h3⟩
  | .two kd p a b, k, h => by
    obtain ⟨l, h1, h2, h3, h4, h5, h6, h7⟩ := h
    exact ⟨l, at_mono h1, h2.mono, h3, h4, h5, LN.mono h6, LN.mono h7⟩
  | .star p a, k, h => by
    obtain ⟨l, h1, h2, h3, h4, h5⟩ := h
    exact ⟨l, at_mono h1, h2.mono, h3, h4, LN.mono h5⟩
theorem LN.node {P : List Pat} {L : List Lns} {b : BT} {k : Nat} (h : LN P L b k) : ∃ l, L[k]? = some l ∧ LN1 P b l := by
  cases b <;> obtain ⟨l, h1, h2, _⟩ := h <;> exact ⟨l, h1, h2⟩
theorem LN.lt {P : List Pat} {L : List Lns} {b : BT} {k : Nat} (h : LN P L b k) : k < L.length := by
  obtain ⟨l, h1, _⟩ := h.node
  exact (List.getElem?_eq_some_iff.1 h1).1
/-- each lens within has its node -/
theorem LN.sub {P : List Pat} {L : List Lns} : ∀ {b : BT} {k : Nat}, LN P L b k → ∀ c, c ∈ bsubs b → ∃ j, LN P L c j
  | .pat t, k, h, c, hc => by rw [bsubs, List.mem_singleton] at hc; subst hc; exact ⟨k, h⟩
  | .key t v d, k, h, c, hc => by rw [bsubs, List.mem_singleton] at hc; subst hc; exact ⟨k, h⟩
  | .two kd p a b, k, h, c, hc => by
    rw [bsubs, List.mem_cons, List.mem_append] at hc
    rcases hc with rfl | hc | hc
    · exact ⟨k, h⟩
    · obtain ⟨l, h1, h2, h3, h4, h5, h6, h7⟩ := h; exact LN.sub h6 c hc
    · obtain ⟨l, h1, h2, h3, h4, h5, h6, h7⟩ := h; exact LN.sub h7 c hc
  | .star p a, k, h, c, hc => by
    rw [bsubs, List.mem_cons] at hc
    rcases hc with rfl | hc
    · exact ⟨k, h⟩
    · obtain ⟨l, h1, h2, h3, h4, h5⟩ := h; exact LN.sub h5 c hc

/-- from P and L on a lens was laid, whose node is k: nothing else -/
def Laid (P : List Pat) (L : List Lns) (P' : List Pat) (L' : List Lns) (k : Nat) (b : BT) : Prop :=
  (∃ Q, P' = P ++ Q) ∧ (∃ R, L' = L ++ R) ∧ LN P' L' b k ∧ ∀ j, L.length ≤ j → j < L'.length → ∃ c, c ∈ bsubs b ∧ LN P' L' c j

theorem at_end (L : List Lns) (l : Lns) : (L ++ [l])[L.length]? = some l := by simp
theorem Laid.leaf {P Q : List Pat} {L : List Lns} {l : Lns} {b : BT} (h : LN (P ++ Q) (L ++ [l]) b L.length) : Laid P L (P ++ Q) (L ++ [l]) L.length b := by
  refine ⟨⟨Q, rfl⟩, ⟨[l], rfl⟩, h, fun j h1 h2 => ?_⟩
  rw [List.length_append, List.length_singleton] at h2
  obtain rfl : j = L.length := by omega
  exact ⟨b, bsubs_self b, h⟩

theorem Laid.pat {P PP : List Pat} {L : List Lns} {kk : Nat} {t : PT} (hQ : ∃ Q, PP = P ++ Q) (hr : PRep PP t kk) (hf : fresh t = true) (hw : wf t = true) :
    Laid P L PP (L ++ [⟨112, 0, 0, 0, ⟨#[]⟩, ⟨#[]⟩, kk, kk⟩]) L.length (.pat t) := by
  obtain ⟨Q, rfl⟩ := hQ
  exact Laid.leaf ⟨_, at_end _ _, ⟨bw_pat hf hw, hr, hr⟩, rfl⟩

theorem Laid.key {P PP : List Pat} {L : List Lns} {kk : Nat} {t : PT} {v d : List UInt8} (hQ : ∃ Q, PP = P ++ Q) (hr : PRep PP t kk) (hf : fresh t = true) (hw : wf t = true) (hv : v.length ≤ 120) :
    Laid P L (PP ++ [⟨116, txt v, []⟩]) (L ++ [⟨107, 0, 0, 0, txt v, txt d, kk, PP.length⟩]) L.length (.key t v d) := by
  obtain ⟨Q, rfl⟩ := hQ
  rw [List.append_assoc]
  refine Laid.leaf ⟨_, at_end _ _, ⟨bw_key hf hw v d, ?_, ?_⟩, rfl, rfl, rfl⟩
  · rw [← List.append_assoc]; exact PRep_mono hr
  · show PRep _ (bV (.key t v d)) ((P ++ Q).length)
    rw [bV, PRep, ← List.append_assoc]
    exact .inr ⟨v, hv, rfl, by simp⟩

theorem Laid.lift {P P1 P2 : List Pat} {L L1 L2 : List Lns} {k : Nat} {b : BT} (h : Laid P L P1 L1 k b) (hQ : ∃ Q, P2 = P1 ++ Q) (hR : ∃ R, L2 = L1 ++ R) :
    (∃ Q, P2 = P ++ Q) ∧ (∃ R, L2 = L ++ R) ∧ LN P2 L2 b k ∧ ∀ j, L.length ≤ j → j < L1.length → ∃ c, c ∈ bsubs b ∧ LN P2 L2 c j := by
  obtain ⟨⟨Q1, e1⟩, ⟨R1, e2⟩, h3, h4⟩ := h
  obtain ⟨Q, rfl⟩ := hQ
  obtain ⟨R, rfl⟩ := hR
  refine ⟨⟨Q1 ++ Q, by rw [e1, List.append_assoc]⟩, ⟨R1 ++ R, by rw [e2, List.append_assoc]⟩, h3.mono, fun j q1 q2 => ?_⟩
  obtain ⟨c, hc, hl⟩ := h4 j q1 q2
  exact ⟨c, hc, hl.mono⟩

theorem Laid.two {P P1 P2 : List Pat} {L L1 L2 : List Lns} {ka kb : Nat} {a b : BT} {x y : Lns} {kd : Int} (hkd : kd = 114 ∨ kd = 124 ∨ kd = 126) (p : Nat) (ha : Laid P L P1 L1 ka a) (hb : Laid P1 L1 P2 L2 kb b) (hx : L2[ka]? = some x) (hy : L2[kb]? = some y) :
    Laid P L (P2 ++ [twoS kd x y] ++ [twoV kd x y]) (L2 ++ [⟨kd, ka, kb, p, ⟨#[]⟩, ⟨#[]⟩, P2.length, P2.length + 1⟩]) L2.length (.two kd p a b) := by
  obtain ⟨a1, a2, a3, a4⟩ := ha.lift hb.1 hb.2.1
  have b3 := hb.2.2.1
  have b4 := hb.2.2.2
  have hL1 : L1.length ≤ L2.length := by obtain ⟨R, e⟩ := hb.2.1; rw [e]; simp
  obtain ⟨xl, hx1, hx2⟩ := a3.node
  obtain ⟨yl, hy1, hy2⟩ := b3.node
  obtain rfl : xl = x := by rw [hx1] at hx; exact Option.some.inj hx
  obtain rfl : yl = y := by rw [hy1] at hy; exact Option.some.inj hy
  have hs0 : (P2 ++ [twoS kd xl yl] ++ [twoV kd xl yl])[P2.length]? = some (twoS kd xl yl) := by simp
  have hv0 : (P2 ++ [twoS kd xl yl] ++ [twoV kd xl yl])[P2.length + 1]? = some (twoV kd xl yl) := by simp
  have up : ∀ {t k}, PRep P2 t k → PRep (P2 ++ [twoS kd xl yl] ++ [twoV kd xl yl]) t k := fun h => by rw [List.append_assoc]; exact PRep_mono h
  have hnode : LN (P2 ++ [twoS kd xl yl] ++ [twoV kd xl yl]) (L2 ++ [⟨kd, ka, kb, p, ⟨#[]⟩, ⟨#[]⟩, P2.length, P2.length + 1⟩]) (.two kd p a b) L2.length := by
    refine ⟨_, at_end _ _, ⟨bw_two hx2.1 hy2.1 kd p, ?_, ?_⟩, rfl, hkd, rfl, ?_, ?_⟩
    · show PRep _ (bS (.two kd p a b)) P2.length
      rw [bS]
      split
      · rename_i e
        rw [PRep]
        refine .inl ⟨[xl.s, yl.s], by rw [hs0, twoS, if_pos e], ?_⟩
        simp only [PRepL]
        exact ⟨up hx2.2.1, up hy2.2.1, trivial⟩
      · rename_i e
        rw [PRep]
        refine ⟨[xl.s, yl.s], by rw [hs0, twoS, if_neg e], ?_⟩
        simp only [PRepL]
        exact ⟨up hx2.2.1, up hy2.2.1, trivial⟩
    · show PRep _ (bV (.two kd p a b)) (P2.length + 1)
      rw [bV]
      split
      · rename_i e
        rw [PRep]
        refine .inl ⟨[xl.v, yl.v], by rw [hv0, twoV, if_pos e], ?_⟩
        simp only [PRepL]
        exact ⟨up hx2.2.2, up hy2.2.2, trivial⟩
      · rename_i e
        split
        · rename_i e2
          rw [PRep]
          refine ⟨[yl.v, xl.v], by rw [hv0, twoV, if_neg e, if_pos e2], ?_⟩
          simp only [PRepL]
          exact ⟨up hy2.2.2, up hx2.2.2, trivial⟩
        · rename_i e2
          rw [PRep]
          refine ⟨[xl.v, yl.v], by rw [hv0, twoV, if_neg e, if_neg e2], ?_⟩
          simp only [PRepL]
          exact ⟨up hx2.2.2, up hy2.2.2, trivial⟩
    · rw [List.append_assoc]; exact a3.mono
    · rw [List.append_assoc]; exact b3.mono
  refine ⟨?_, ?_, hnode, fun j h1 h2 => ?_⟩
  · obtain ⟨Q, e⟩ := a1; exact ⟨Q ++ [twoS kd xl yl] ++ [twoV kd xl yl], by rw [e]; simp⟩
  · obtain ⟨R, e⟩ := a2; exact ⟨R ++ [⟨kd, ka, kb, p, ⟨#[]⟩, ⟨#[]⟩, P2.length, P2.length + 1⟩], by rw [e]; simp⟩
  · rw [List.length_append, List.length_singleton] at h2
    rcases Nat.lt_or_ge j L1.length with q | q
    · obtain ⟨c, hc, hl⟩ := a4 j h1 q
      exact ⟨c, by rw [bsubs]; exact List.mem_cons_of_mem _ (List.mem_append_left _ hc), by rw [List.append_assoc]; exact hl.mono⟩
    · rcases Nat.lt_or_ge j L2.length with q2 | q2
      · obtain ⟨c, hc, hl⟩ := b4 j q q2
        exact ⟨c, by rw [bsubs]; exact List.mem_cons_of_mem _ (List.mem_append_right _ hc), by rw [List.append_assoc]; exact hl.mono⟩
      · obtain rfl : j = L2.length := by omega
        exact ⟨_, bsubs_self _, hnode⟩

theorem Laid.star {P P1 : List Pat} {L L1 : List Lns} {k : Nat} {a : BT} (p : Nat) (ha : Laid P L P1 L1 k a) {x : Lns} (hx : L1[k]? = some x) :
    Laid P L (P1 ++ [⟨42, ⟨#[]⟩, [x.s]⟩] ++ [⟨42, ⟨#[]⟩, [x.v]⟩]) (L1 ++ [⟨42, k, 0, p, ⟨#[]⟩, ⟨#[]⟩, P1.length, P1.length + 1⟩]) L1.length (.star p a) := by
  obtain ⟨a1, a2, a3, a4⟩ := ha
  obtain ⟨xl, hx1, hx2⟩ := a3.node
  obtain rfl : xl = x := by rw [hx1] at hx; exact Option.some.inj hx
  have up : ∀ {t k}, PRep P1 t k → PRep (P1 ++ [⟨42, ⟨#[]⟩, [xl.s]⟩] ++ [⟨42, ⟨#[]⟩, [xl.v]⟩]) t k := fun h => by rw [List.append_assoc]; exact PRep_mono h
  have hnode : LN (P1 ++ [⟨42, ⟨#[]⟩, [xl.s]⟩] ++ [⟨42, ⟨#[]⟩, [xl.v]⟩]) (L1 ++ [⟨42, k, 0, p, ⟨#[]⟩, ⟨#[]⟩, P1.length, P1.length + 1⟩]) (.star p a) L1.length := by
    refine ⟨_, at_end _ _, ⟨bw_star hx2.1 p, ?_, ?_⟩, rfl, rfl, ?_⟩
    · show PRep _ (bS (.star p a)) P1.length
      rw [bS, PRep]
      exact ⟨.inl rfl, xl.s, by simp, up hx2.2.1⟩
    · show PRep _ (bV (.star p a)) (P1.length + 1)
      rw [bV, PRep]
      exact ⟨.inl rfl, xl.v, by simp, up hx2.2.2⟩
    · rw [List.append_assoc]; exact a3.mono
  refine ⟨?_, ?_, hnode, fun j h1 h2 => ?_⟩
  · obtain ⟨Q, e⟩ := a1; exact ⟨Q ++ [⟨42, ⟨#[]⟩, [xl.s]⟩] ++ [⟨42, ⟨#[]⟩, [xl.v]⟩], by rw [e]; simp⟩
  · obtain ⟨R, e⟩ := a2; exact ⟨R ++ [⟨42, k, 0, p, ⟨#[]⟩, ⟨#[]⟩, P1.length, P1.length + 1⟩], by rw [e]; simp⟩
  · rw [List.length_append, List.length_singleton] at h2
    rcases Nat.lt_or_ge j L1.length with q | q
    · obtain ⟨c, hc, hl⟩ := a4 j h1 q
      exact ⟨c, by rw [bsubs]; exact List.mem_cons_of_mem _ hc, by rw [List.append_assoc]; exact hl.mono⟩
    · obtain rfl : j = L1.length := by omega
      exact ⟨_, bsubs_self _, hnode⟩

mutual
/-- a lens's tree, as the reference lays it -/
def toB : LT → BT
  | .same l _ _ => .pat (.alt l)
  | .fixed l _ _ v d _ => .key (.alt l) v d
  | .swap p a b => .two 126 p (toB a) (toB b)
  | .group a => toB a
  | .many p a => .star p (toB a)
  | .row l ps => rowB 114 l ps
  | .choice l ps => rowB 124 l ps
def rowB (kd : Int) : List LT → List Nat → BT
  | [], _ => .pat (.seq [])
  | t :: l, ps => rowG kd (toB t) l ps
def rowG (kd : Int) : BT → List LT → List Nat → BT
  | c, [], _ => c
  | c, t :: l, ps => rowG kd (.two kd (ps.headD 0) c (toB t)) l ps.tail
end

theorem rowG_snoc (kd : Int) (t : LT) (j : Nat) : ∀ (l : List LT) (c : BT) (ps : List Nat), ps.length = l.length → rowG kd c (l ++ [t]) (ps ++ [j]) = .two kd j (rowG kd c l ps) (toB t)
  | [], c, ps, h => by
    obtain rfl : ps = [] := List.eq_nil_of_length_eq_zero h
    simp [rowG]
  | u :: l, c, ps, h => by
    match ps, h with
    | p :: ps, h =>
      rw [List.cons_append, List.cons_append, rowG, rowG]
      exact rowG_snoc kd t j l _ ps (by simpa using h)
theorem rowB_snoc (kd : Int) (t : LT) (j : Nat) (l : List LT) (ps : List Nat) (h : ps.length + 1 = l.length) : rowB kd (l ++ [t]) (ps ++ [j]) = .two kd j (rowB kd l ps) (toB t) := by
  match l, h with
  | u :: l, h => rw [List.cons_append, rowB, rowB]; exact rowG_snoc kd t j l _ ps (by simpa using h)
theorem rowB_one (kd : Int) (t : LT) (ps : List Nat) : rowB kd [t] ps = toB t := by rw [rowB, rowG]
theorem toB_joinAlt : ∀ (l : List LT) (ps : List Nat), toB (joinAlt l ps) = rowB 124 l ps
  | [], ps => by rw [joinAlt, toB] <;> simp
  | [t], ps => by rw [joinAlt, rowB_one]
  | t :: u :: l, ps => by rw [joinAlt, toB]; simp
theorem toB_joinRow : ∀ (l : List LT) (ps : List Nat), toB (joinRow l ps) = rowB 114 l ps
  | [], ps => by rw [joinRow, toB] <;> simp
  | [t], ps => by rw [joinRow, rowB_one]
  | t :: u :: l, ps => by rw [joinRow, toB]; simp

/-- the kind of a row of lenses, by what stands between them in the plain form -/
def kdOf (sep : List UInt8) : Int := if sep.length = 1 then 114 else 124

end Go.Proofs.YtlljggefbngkeaaGreatDoor

namespace Go.Proofs.YtlljggefbngkeaaGreatDoor
open Go.RowKit

/-- what a reader of a lens (of an item, of a row) leaves; f: its form, x: its defaults -/
def GoodL (Y : Nat → Prop) (b : Nat) (s : ByteArray) (st : St) (c : Int) (e : Ending) (w' : World) (f : List UInt8) (x : List (List PT × List UInt8 × Nat)) (j : Nat) (bt : BT) : Prop :=
  ∃ (k : Nat) (st' : St), e = .returned (.int .i64 k) ∧ k < st'.L.length ∧ st.L.length ≤ st'.L.length ∧ RH w' Y b s st' ∧ st'.i = j ∧ st'.bad = false ∧ st'.out = st.out ++ txt f ∧ WnRel st.wn st'.wn x ∧ -1 ≤ st'.wn ∧ st'.wn < j ∧ st'.bd (c - 10) ∧ Laid st.P st.L st'.P st'.L k bt

def LPost (Y : Nat → Prop) (b : Nat) (s : ByteArray) (st : St) (c d : Int) (e : Ending) (w' : World) : Res LT → Prop
  | .ok t j => st.i < j ∧ j ≤ s.size ∧ GoodL Y b s st c e w' (form s t) (dflts t) j (toB t)
  | .err p => (∃ k : Nat, e = .returned (.int .i64 k)) ∧ BadAt w' Y b s p (c + d) ∧ st.i ≤ p

theorem BlanksG {w : World} {Y : Nat → Prop} {b : Nat} {s : ByteArray} {st : St} (h : RH w Y b s st) (hs : s.size ≤ 120) (hi : st.i ≤ s.size) (eb : st.bad = false) :
    Calls Tryz.prog 56 #[.pointer (some ⟨b, 0, none⟩)] w fun e w' => e = .returned (.tuple #[]) ∧ RH w' Y b s { st with i := skipB s st.i } ∧ Kp Y w w' := by
  have := Blanks h hs hi
  rw [St.skip_ok st s eb] at this
  exact this
theorem BlanksB {w : World} {Y : Nat → Prop} {b : Nat} {s : ByteArray} {st : St} (h : RH w Y b s st) (hs : s.size ≤ 120) (hi : st.i ≤ s.size) (eb : st.bad = true) :
    Calls Tryz.prog 56 #[.pointer (some ⟨b, 0, none⟩)] w fun e w' => e = .returned (.tuple #[]) ∧ RH w' Y b s st ∧ Kp Y w w' := by
  have := Blanks h hs hi
  rw [St.skip_bad st s eb] at this
  exact this
theorem St.bd_wn {st : St} {c : Int} (hd : st.bd c) (n : Int) : St.bd { st with wn := n } c := hd
theorem txt_app (a c : List UInt8) : txt (a ++ c) = txt a ++ txt c := by
  apply ByteArray.ext; simp [txt, ByteArray.data_append]
theorem fixed_out (out s : ByteArray) (i j k k1 k2 m : Nat) (l : List PT) (v dd : List UInt8) (at_ : Nat) (h1 : sub s.data.toList k k1 = 34 :: v ++ [34]) (h2 : sub s.data.toList k2 m = 34 :: dd ++ [34]) :
    out ++ s.extract i j ++ s.extract k k1 ++ s.extract k2 m = out ++ txt (form s (.fixed l i j v dd at_)) := by
  rw [← txt_sub s i j, ← txt_sub s k k1, ← txt_sub s k2 m, h1, h2, form]
  rw [ByteArray.append_assoc, ByteArray.append_assoc, ← txt_app, ← txt_app]
  congr 2
  simp
theorem St.bd_node {st : St} {c d : Int} (hd : st.bd c) (l : Lns) (hcd : c + 1 ≤ d) : St.bd { st with L := st.L ++ [l] } d := by
  unfold St.bd at *
  simp
  omega
theorem St.bd_i {st : St} {c : Int} (hd : st.bd c) (i : Nat) (hi : st.i ≤ i) : St.bd { st with i := i } c := by
  unfold St.bd at *
  simp
  omega
theorem St.spoil_bad (st : St) (h : st.bad = true) : st.spoil = st := by cases st; simp [St.spoil] at *; exact h

set_option maxRecDepth 100000 in
set_option maxHeartbeats 3200000 in
theorem Plain {w : World} {Y : Nat → Prop} {b : Nat} {s : ByteArray} {st : St} {c : Int} (h : RH w Y b s st) (hs : s.size ≤ 120) (hb : st.bad = false) (hi : st.i ≤ s.size) (hd : st.bd c) (hc : c ≤ 4000) (hY : ∀ k, Y k → k < w.heap.size) (hw : -1 ≤ st.wn ∧ st.wn < st.i) (h47 : pk s st.i = 47) :
    Calls Tryz.prog 154 #[.pointer (some ⟨b, 0, none⟩)] w fun e w' => Kp Y w w' ∧ LPost Y b s st c 12 e w' (gPlain s (4 * s.size + 4) st.i) := by
  have hlt : st.i < s.size := pk_lt (by rw [h47]; decide)
  have HE := hide (EatOk 47 h hs hlt (St.out_le hs (by omega) hi hd) hb h47)
  rw [St.up1 st s hlt] at HE
  have HD := hide (And.intro hb (And.intro hd hw))
  clear h hb hd hw h47
  go_enter Tryz.func154, Tryz.ntmps154
  go_wp2_with fail
  refine (unhide HE).mono ?_
  rintro e w1 ⟨rfl, hR1, hK1⟩
  have hY1 : ∀ k, Y k → k < w1.heap.size := fun k hk => by have := hY k hk; have := hK1.size; omega
  go_wp2_with fail
  refine (Pattern_ hR1 hs (unhide HD).1 hlt (St.bd_up (unhide HD).2.1 s (st.i + 1) (by omega) hlt) (by omega) hY1 (4 * s.size + 4) (by rw [St.upTo_i]; omega)).mono ?_
  rintro e w2 ⟨hK2, hP2⟩
  have hK12 := hK1.trans hK2
  rw [St.upTo_i] at hP2
  have hbadall : (∃ p, gPlain s (4 * s.size + 4) st.i = .err p ∧ st.i ≤ p ∧ p ≤ s.size ∧ (∃ k : Nat, e = .returned (.int .i64 k)) ∧ ∃ st', RH w2 Y b s st' ∧ st'.i = p ∧ peekI s st'.i st'.bad ≠ 47 ∧ st'.bd (c - 9)) ∨ (∃ l j, gAlts s (4 * s.size + 4) (st.i + 1) = .ok l j ∧ pk s j = 47 ∧ st.i < j ∧ j < s.size ∧ e = .returned (.int .i64 (enc (.alt l) st.P).1) ∧ RH w2 Y b s { st.upTo s j with P := (enc (.alt l) st.P).2 } ∧ St.bd { st.upTo s j with P := (enc (.alt l) st.P).2 } (c - 9)) := by
    cases hg : gAlts s (4 * s.size + 4) (st.i + 1) with
    | err p =>
      rw [hg] at hP2
      obtain ⟨hk, ⟨st', hR, hbad, hip, hps, hbd⟩, hp⟩ := hP2
      rw [St.upTo_i] at hp
      exact Or.inl ⟨p, by rw [gPlain, hg]; rfl, by omega, hps, hk, st', hR, hip, by rw [hbad, peekI_bad]; decide, St.bd_mono hbd (by omega)⟩
    | ok l j =>
      rw [hg] at hP2
      obtain ⟨hj1, hj2, hP2⟩ := hP2
      rw [St.upTo_i] at hj2
      by_cases hj : pk s j = 47
      · rw [if_pos (by rw [hj]; rfl)] at hP2
        obtain ⟨he, hR, hbd⟩ := hP2
        rw [St.upTo_upTo st s (st.i + 1) j (by omega) (by omega) hj1] at hR hbd
        exact Or.inr ⟨l, j, rfl, hj, by omega, pk_lt (by rw [hj]; decide), he, hR, St.bd_mono hbd (by omega)⟩
      · left
        refine ⟨j, by rw [gPlain, hg]; simp only [Res.bind]; rw [if_neg hj], by omega, hj1, ?_⟩
        by_cases hst : stopI (pk s j) = true
        · rw [if_pos hst] at hP2
          obtain ⟨he, hR, hbd⟩ := hP2
          exact ⟨⟨_, he⟩, _, hR, rfl, by show peekI s j st.bad ≠ 47; rw [(unhide HD).1]; exact hj, St.bd_mono hbd (by omega)⟩
        · rw [if_neg hst] at hP2
          obtain ⟨hk, st', hR, hbad, hip, hps, hbd⟩ := hP2
          exact ⟨hk, st', hR, hip, by rw [hbad, peekI_bad]; decide, St.bd_mono hbd (by omega)⟩
  clear hP2
  rcases hbadall with ⟨p, hgp, hp1, hp2, ⟨k, rfl⟩, st', hR2, hip, hpk, hbd⟩ | ⟨l, j, hg, hj47, hij, hjs, rfl, hR2, hbd⟩
  · have HE2 := hide (EatNo 47 hR2 hs (by rw [hip]; exact hp2) hpk)
    have HB := hide (And.intro hgp (And.intro hip hbd))
    clear hgp hip hbd hpk
    go_wp2_with fail
    refine (unhide HE2).mono ?_
    rintro e w3 ⟨rfl, hR3, hK3⟩
    go_wp2_with fail
    refine (BlanksB hR3 hs (by show st'.i ≤ _; rw [(unhide HB).2.1]; exact hp2) rfl).mono ?_
    rintro e w4 ⟨rfl, hR4, hK4⟩
    have c2 : w4.cell? ⟨b, 2, none⟩ = some (.bool true) := hR4.c2
    have hKK := (hK12.trans hK3).trans hK4
    go_wp2_with fail
    refine (Node ⟨112, 0, 0, 0, ⟨#[]⟩, ⟨#[]⟩, k, k⟩ hR4 (St.L_le (st := st') hs (by omega) (by rw [(unhide HB).2.1]; exact hp2) (unhide HB).2.2) (fun k hk => by have := hY k hk; have := hKK.size; omega)).mono ?_
    rintro e w5 ⟨rfl, hR5, hK5⟩
    go_wp2
    go_ret
    refine ⟨hKK.trans hK5, ?_⟩
    rw [(unhide HB).1]
    exact ⟨⟨_, rfl⟩, ⟨_, hR5, rfl, (unhide HB).2.1, hp2, St.bd_node (St.bd_spoil (unhide HB).2.2) _ (by omega)⟩, hp1⟩
  · have hwf := gAlts_wf s hs _ _ _ _ hg
    have hrep : PRep (enc (.alt l) st.P).2 (.alt l) (enc (.alt l) st.P).1 := enc_rep (.alt l) st.P (by rw [okRep]; exact hwf.2)
    have hw2 : wf (.alt l) = true := by rw [wf]; exact hwf.1
    have hPpos : 0 < (enc (.alt l) st.P).2.length := by rw [enc]; simp
    have hext := enc_pre (.alt l) st.P
    generalize (enc (.alt l) st.P).2 = PP at *
    generalize (enc (.alt l) st.P).1 = kk at *
    have HE2 := hide (EatOk 47 hR2 hs hjs (St.out_le hs (by omega) (Nat.le_of_lt hjs) hbd) (unhide HD).1 hj47)
    rw [St.up_P st s _ j (by omega) hjs] at HE2
    have hbdA := St.bd_step (c := c - 20) hbd (by omega) hjs (by omega)
    have hk0 := skipB_bd s (j + 1) hjs
    have HGP : Hid (gPlain s (4 * s.size + 4) st.i = if pk s (skipB s (j + 1)) = 34 then (gQuoted s (skipB s (j + 1))).bind fun v k => (gQuoted s (skipB s k)).bind fun d m => .ok (.fixed l st.i (j + 1) v d (skipB s k)) m else .ok (.same l st.i (j + 1)) (skipB s (j + 1))) := by
      show gPlain s (4 * s.size + 4) st.i = _
      rw [gPlain, hg]; simp only [Res.bind]; rw [if_pos hj47]
    have HB := hide (And.intro hbdA (And.intro hrep (And.intro hw2 hPpos)))
    have HX := hide hext
    clear hg hj47 hbd hbdA hwf hrep hw2 hPpos hext
    go_wp2_with fail
    refine (unhide HE2).mono ?_
    rintro e w3 ⟨rfl, hR3, hK3⟩
    go_wp2_with fail
    refine (BlanksG hR3 hs hjs (unhide HD).1).mono ?_
    rintro e w4 ⟨rfl, hR4, hK4⟩
    have hKK := (hK12.trans hK3).trans hK4
    have hYK : ∀ k, Y k → k < w4.heap.size := fun k hk => by have := hY k hk; have := hKK.size; omega
    have c2 : w4.cell? ⟨b, 2, none⟩ = some (.bool false) := hR4.c2.trans (by show some (Value.bool st.bad) = _; rw [(unhide HD).1])
    have hbdB : St.bd { st.upTo s (j + 1) with i := skipB s (j + 1), P := PP } (c - 20) := St.bd_i (unhide HB).1 _ hk0.1
    have hR4' : RH w4 Y b s { st.upTo s (j + 1) with i := skipB s (j + 1), P := PP } := hR4
    have HP := hide (PeekGR (i := skipB s (j + 1)) hR4' hs rfl hk0.2 (unhide HD).1)
    have HBB := hide hbdB
    clear hR4 hbdB
    by_cases h34 : pk s (skipB s (j + 1)) = 34
    · rw [h34] at HP
      have HGP2 := hide (unhide HGP)
      rw [if_pos h34] at HGP2
      have HQ := hide (fun (W : World) (hW : RH W Y b s _) => Quoted (st := { st.upTo s (j + 1) with i := skipB s (j + 1), P := PP }) hW hs (unhide HD).1 hk0.2 (unhide HBB) (by omega))
      clear h34
      go_wp2_with (go_at_call 58; refine (unhide HP).mono ?_; rintro e w5 ⟨rfl, hR5, hK5⟩)
      refine (unhide HQ _ hR5).mono ?_
      rintro e w6 ⟨hK6, hP6⟩
      have hK46 := (hKK.trans hK5).trans hK6
      replace hP6 : QuotPost Y b s _ e w6 (gQuoted s (skipB s (j + 1))) := hP6
      cases hg1 : gQuoted s (skipB s (j + 1)) with
      | err p =>
        rw [hg1] at hP6 HGP2
        obtain ⟨hp1, hp2, ⟨x, rfl⟩, hR6⟩ := hP6
        have hp1' : skipB s (j + 1) ≤ p := hp1
        have HG := hide (And.intro (unhide HGP2) (St.bd_upTo (unhide HBB) s p hp1 hp2))
        clear hg1 HGP2 hp1 c2
        go_wp2_with fail
        refine (BlanksB hR6 hs hp2 rfl).mono ?_
        rintro e w7 ⟨rfl, hR7, hK7⟩
        have c1 := hR7.c1
        go_wp2_with fail
        refine (QuotedBad hR7 hs rfl hp2).mono ?_
        rintro e w8 ⟨⟨y, rfl⟩, hR8, hK8⟩
        have c2 : w8.cell? ⟨b, 2, none⟩ = some (.bool true) := hR8.c2
        go_wp2
        go_ret
        refine ⟨(hK46.trans hK7).trans hK8, ?_⟩
        rw [(unhide HG).1]
        exact ⟨⟨0, rfl⟩, ⟨_, hR8, rfl, rfl, hp2, St.bd_mono (unhide HG).2 (by omega)⟩, by omega⟩
      | ok v k1 =>
        rw [hg1] at hP6 HGP2
        obtain ⟨hk1, hk1s, hvl, rfl, hR6⟩ := hP6
        have hk1' : skipB s (j + 1) < k1 := hk1
        have hk2 := skipB_bd s k1 hk1s
        have hbdC := St.bd_i (St.bd_upTo (unhide HBB) s k1 (Nat.le_of_lt hk1) hk1s) (skipB s k1) hk2.1
        have HGQ := hide (And.intro (gQuoted_form hg1).2.2.2 (And.intro (unhide HGP2) hbdC))
        simp only [Res.bind] at HGQ
        clear hg1 HGP2 hk1 hbdC c2
        go_wp2_with fail
        refine (BlanksG hR6 hs hk1s (unhide HD).1).mono ?_
        rintro e w7 ⟨rfl, hR7, hK7⟩
        have c1 : w7.cell? ⟨b, 1, none⟩ = some (.int .i64 (skipB s k1 : Nat)) := hR7.c1
        have hK47 := hK46.trans hK7
        go_wp2_with fail
        refine (Quoted hR7 hs (unhide HD).1 hk2.2 (unhide HGQ).2.2 (by omega)).mono ?_
        rintro e w8 ⟨hK8, hP8⟩
        have hK48 := hK47.trans hK8
        replace hP8 : QuotPost Y b s _ e w8 (gQuoted s (skipB s k1)) := hP8
        clear c1
        cases hg2 : gQuoted s (skipB s k1) with
        | err p =>
          rw [hg2] at hP8 HGQ
          obtain ⟨hp1, hp2, ⟨x, rfl⟩, hR8⟩ := hP8
          have hp1' : skipB s k1 ≤ p := hp1
          have HG := hide (And.intro (unhide HGQ).2.1 (St.bd_upTo (unhide HGQ).2.2 s p hp1 hp2))
          clear hg2 HGQ hp1
          have c2 : w8.cell? ⟨b, 2, none⟩ = some (.bool true) := hR8.c2
          go_wp2
          go_ret
          refine ⟨hK48, ?_⟩
          rw [(unhide HG).1]
          exact ⟨⟨0, rfl⟩, ⟨_, hR8, rfl, rfl, hp2, St.bd_mono (unhide HG).2 (by omega)⟩, by omega⟩
        | ok dd m =>
          rw [hg2] at hP8 HGQ
          obtain ⟨hm1, hm2, hdl, rfl, hR8⟩ := hP8
          have hm1' : skipB s k1 < m := hm1
          have hdd := (gQuoted_form hg2).2.2.2
          have hbdD := St.bd_upTo (unhide HGQ).2.2 s m (Nat.le_of_lt hm1) hm2
          obtain ⟨gp, cap, xs, c5, hPM⟩ := hR8.pm (unhide HB).2.2.2
          have c2 : w8.cell? ⟨b, 2, none⟩ = some (.bool false) := hR8.c2.trans (by show some (Value.bool st.bad) = _; rw [(unhide HD).1])
          have HIn := hide (in_any (d := txt dd) hPM (St.P_le hs (by omega) hm2 hbdD) (unhide HB).2.1 (unhide HB).2.2.1 (by rw [txt_size]; omega))
          have HDD := hide (And.intro hdd (And.intro hbdD hR8))
          have hPle : PP.length ≤ 100000 := St.P_le hs (by omega) hm2 hbdD
          have hLle : st.L.length ≤ 100000 := St.L_le hs (c := c) (by omega) hi (unhide HD).2.1
          clear hg2 hm1 hdd hbdD hPM
          go_wp2_with fail
          refine (unhide HIn).mono ?_
          rintro e w9 ⟨x, rfl, hx, hK9⟩
          have hR9 := (unhide HDD).2.2.k0 hK9
          have hK49 := hK48.trans (hK9.kp Y)
          have c3 : w9.cell? ⟨b, 3, none⟩ = some (.int .i64 st.wn) := hR9.c3
          have f3 := hR9.fz 3
          rw [show (txt dd).data.toList = dd from by simp [txt]] at hx
          have Hx := hide hx
          clear hx c2 c5
          have hwn := (unhide HD).2.2
          cases x with
          | true =>
            go_wp2_with fail
            refine (Lay ⟨116, txt v, []⟩ (.slice none 0 0) hR9 hPle (fun k hk => by have := hY k hk; have := hK49.size; first | omega | (simp [World.setCell]; omega)) (World.ownsRow_nil _ _ _ _) (by intro k hk; cases hk)).mono ?_
            rintro e w10 ⟨rfl, hR10, hK10⟩
            go_wp2_with fail
            refine (Node ⟨107, 0, 0, 0, txt v, txt dd, kk, PP.length⟩ hR10 hLle (fun k hk => by have := hY k hk; have := hK49.size; have := hK10.size; first | omega | (simp [World.setCell] at this; omega))).mono ?_
            rintro e w11 ⟨rfl, hR11, hK11⟩
            go_wp2
            go_ret
            refine ⟨(hK49.trans hK10).trans hK11, ?_⟩
            rw [(unhide HGQ).2.1]
            refine ⟨by omega, hm2, _, _, rfl, by simp, by simp [St.upTo_L], hR11, rfl, (unhide HD).1, ?_, ?_, ?_, ?_, St.bd_node (St.bd_lay (St.bd_wn (unhide HDD).2.1 _) _) _ (by omega), by rw [toB]; exact Laid.key (unhide HX) (unhide HB).2.1 (by rw [fresh]) (unhide HB).2.2.1 (by omega)⟩
            · exact fixed_out st.out s st.i (j + 1) _ k1 _ m l v dd _ (unhide HGQ).1 (unhide HDD).1
            · rw [dflts]; exact ⟨fun h0 => ⟨by omega, none, by rw [FirstW]; exact Or.inl ⟨by simpa using unhide Hx, rfl⟩, by show st.wn = -1; omega⟩, fun _ => rfl⟩
            · show -1 ≤ st.wn; omega
            · show st.wn < (m : Int); omega
          | false =>
            by_cases h0 : st.wn < 0
            · have q5 : decide (st.wn < 0) = true := by simpa using h0
              go_wp2_with fail
              refine (Lay ⟨116, txt v, []⟩ (.slice none 0 0) (hR9.setWn ((skipB s k1 : Nat) : Int)) hPle (fun k hk => by have := hY k hk; have := hK49.size; first | omega | (simp [World.setCell]; omega)) (World.ownsRow_nil _ _ _ _) (by intro k hk; cases hk)).mono ?_
              rintro e w10 ⟨rfl, hR10, hK10⟩
              go_wp2_with fail
              refine (Node ⟨107, 0, 0, 0, txt v, txt dd, kk, PP.length⟩ hR10 hLle (fun k hk => by have := hY k hk; have := hK49.size; have := hK10.size; first | omega | (simp [World.setCell] at this; omega))).mono ?_
              rintro e w11 ⟨rfl, hR11, hK11⟩
              go_wp2
              go_ret
              refine ⟨((hK49.trans (Kp.set _ _ _ _ hR9.nb)).trans hK10).trans hK11, ?_⟩
              rw [(unhide HGQ).2.1]
              refine ⟨by omega, hm2, _, _, rfl, by simp, by simp [St.upTo_L], hR11, rfl, (unhide HD).1, ?_, ?_, ?_, ?_, St.bd_node (St.bd_lay (St.bd_wn (unhide HDD).2.1 _) _) _ (by omega), by rw [toB]; exact Laid.key (unhide HX) (unhide HB).2.1 (by rw [fresh]) (unhide HB).2.2.1 (by omega)⟩
              · exact fixed_out st.out s st.i (j + 1) _ k1 _ m l v dd _ (unhide HGQ).1 (unhide HDD).1
              · rw [dflts]; exact ⟨fun _ => ⟨by omega, some (skipB s k1), by rw [FirstW]; exact Or.inr ⟨by simpa using unhide Hx, rfl⟩, rfl⟩, fun h1 => by omega⟩
              · show -1 ≤ ((skipB s k1 : Nat) : Int); omega
              · show ((skipB s k1 : Nat) : Int) < (m : Int); omega
            · have q5 : decide (st.wn < 0) = false := by simpa using h0
              have q6 : decide (((skipB s k1 : Nat) : Int) < st.wn) = false := by simp; omega
              go_wp2_with fail
              refine (Lay ⟨116, txt v, []⟩ (.slice none 0 0) hR9 hPle (fun k hk => by have := hY k hk; have := hK49.size; first | omega | (simp [World.setCell]; omega)) (World.ownsRow_nil _ _ _ _) (by intro k hk; cases hk)).mono ?_
              rintro e w10 ⟨rfl, hR10, hK10⟩
              go_wp2_with fail
              refine (Node ⟨107, 0, 0, 0, txt v, txt dd, kk, PP.length⟩ hR10 hLle (fun k hk => by have := hY k hk; have := hK49.size; have := hK10.size; first | omega | (simp [World.setCell] at this; omega))).mono ?_
              rintro e w11 ⟨rfl, hR11, hK11⟩
              go_wp2
              go_ret
              refine ⟨(hK49.trans hK10).trans hK11, ?_⟩
              rw [(unhide HGQ).2.1]
              refine ⟨by omega, hm2, _, _, rfl, by simp, by simp [St.upTo_L], hR11, rfl, (unhide HD).1, ?_, ?_, ?_, ?_, St.bd_node (St.bd_lay (St.bd_wn (unhide HDD).2.1 _) _) _ (by omega), by rw [toB]; exact Laid.key (unhide HX) (unhide HB).2.1 (by rw [fresh]) (unhide HB).2.2.1 (by omega)⟩
              · exact fixed_out st.out s st.i (j + 1) _ k1 _ m l v dd _ (unhide HGQ).1 (unhide HDD).1
              · rw [dflts]; exact ⟨fun h1 => by omega, fun _ => rfl⟩
              · show -1 ≤ st.wn; omega
              · show st.wn < (m : Int); omega
    · have q1 : (pk s (skipB s (j + 1)) != 34) = true := by rw [bne_iff_ne]; exact h34
      have HGP2 := hide (unhide HGP)
      rw [if_neg h34] at HGP2
      clear h34
      generalize hpk : pk s (skipB s (j + 1)) = a at *
      clear hpk
      go_wp2_with (go_at_call 58; refine (unhide HP).mono ?_; rintro e w5 ⟨rfl, hR5, hK5⟩)
      refine (Node ⟨112, 0, 0, 0, ⟨#[]⟩, ⟨#[]⟩, kk, kk⟩ hR5 (St.L_le hs (by omega) hk0.2 (unhide HBB)) (fun k hk => by have := hYK k hk; have := hK5.size; omega)).mono ?_
      rintro e w6 ⟨rfl, hR6, hK6⟩
      go_wp2
      go_ret
      refine ⟨(hKK.trans hK5).trans hK6, ?_⟩
      rw [unhide HGP2]
      refine ⟨by omega, hk0.2, _, _, rfl, by simp, by simp [St.upTo_L], hR6, rfl, (unhide HD).1, ?_, ?_, (unhide HD).2.2.1, ?_, St.bd_node (unhide HBB) _ (by omega), by rw [toB]; exact Laid.pat (unhide HX) (unhide HB).2.1 (by rw [fresh]) (unhide HB).2.2.1⟩
      · show (st.upTo s (j + 1)).out = _
        rw [form, txt_sub]; rfl
      · rw [dflts]; exact WnRel.nil (unhide HD).2.2.1
      · show st.wn < _
        have := (unhide HD).2.2.2
        omega

end Go.Proofs.YtlljggefbngkeaaGreatDoor
