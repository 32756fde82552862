import Derived.WalkKit
namespace Go.Proofs.YtlljggefbngkeaaGreatDoor
inductive PT where
 | chr (l:List UInt8)
 | seq (l:List PT)
 | alt (l:List PT)
 | rep (c:Int) (t:PT)
inductive cN (α:Type) where
 | ok (a:α) (j:Nat)
 | err (p:Nat)
def cN.bind {α β:Type} (r:cN α) (f:α->Nat->cN β):cN β:=
 match r with
 | .ok a j=>f a j
 | .err p => .err p
def cN.map {α β:Type} (f:α->β) (r:cN α):cN β:=
 match r with
 | .ok a j => .ok (f a) j
 | .err p => .err p
theorem cN.map_map {α β γ:Type} (f:α->β) (g:β->γ) (r:cN α):(r.map f).map g=r.map (fun a=>g (f a)):=by cases r <;> rfl
def iV (c lo hi:Int):Bool:=decide (lo<=c)&&decide (c<=hi)
def oD (l:List UInt8) (c:Int):Bool:=l.any fun x=>(x.toNat:Int)==c
def bG (c:Int):Bool:=iV c 97 122||iV c 48 57||oD [61,44,59,58,95] c
section
variable (s:ByteArray)
def pk (i:Nat):Int:=if h:i<s.size then (s[i].toNat:Int) else 0
def fK (a k:Nat):List UInt8:=((List.range' a (k-a)).filter (fun c:Nat=>bG (c:Int))).map UInt8.ofNat
def gN (a b:Int):List UInt8:=fK a.toNat (b.toNat+1)
def cQ:Nat->Nat->List UInt8->cN (List UInt8)
 | 0,i,_ => .err i
 | n+1,i,l=>
  if bG (pk s i) then
   if pk s (i+1)=45 then
    if bG (pk s (i+2))&&decide (pk s i<=pk s (i+2)) then
     (if pk s (i+3)=93 then .ok (l++gN (pk s i) (pk s (i+2))) (i+4) else cQ n (i+3) (l++gN (pk s i) (pk s (i+2))))
    else .err (i+2)
   else (if pk s (i+1)=93 then .ok (l++gN (pk s i) (pk s i)) (i+2) else cQ n (i+1) (l++gN (pk s i) (pk s i)))
  else .err i
def gZ (t:PT) (j:Nat):PT×Nat:=
 if pk s j=42\/pk s j=43\/pk s j=63 then (.rep (pk s j) t,j+1) else (t,j)
def iK (c:Int):Bool:=decide (c=91)||decide (c=40)||bG c
mutual
def dX:Nat->Nat->cN PT
 | 0,i => .err i
 | n+1,i=>
  if pk s i=91 then (cQ s n (i+1) []).map .chr
  else if pk s i=40 then
   (cI n (i+1)).bind fun l j=>if pk s j=41 then .ok (.alt l) (j+1) else .err j
  else if bG (pk s i) then .ok (.chr [UInt8.ofNat (pk s i).toNat]) (i+1)
  else .err i
def bU:Nat->Nat->cN (List PT)
 | 0,i => .err i
 | n+1,i=>
  if iK (pk s i) then
   (dX n i).bind fun t j=>(bU n (gZ s t j).2).map fun l=>(gZ s t j).1::l
  else .ok [] i
def cI:Nat->Nat->cN (List PT)
 | 0,i => .err i
 | n+1,i=>
  (bU n i).bind fun b j=>if pk s j=124 then (cI n (j+1)).map fun l => .seq b::l else .ok [.seq b] j
end
end
theorem uY (a:Nat):fK a a=[]:=by simp [fK]
theorem yD (a k:Nat) (h:a<=k) (hs:bG (k:Int)=true):fK a (k+1)=fK a k++[UInt8.ofNat k]:=by
 unfold fK
 rw [show k+1-a=(k-a)+1 by omega,List.range'_concat]
 simp only [List.filter_append,List.map_append]
 rw [show a+1*(k-a)=k by omega]
 simp [hs]
theorem AS (a k:Nat) (h:a<=k) (hs:bG (k:Int)=false):fK a (k+1)=fK a k:=by
 unfold fK
 rw [show k+1-a=(k-a)+1 by omega,List.range'_concat]
 simp only [List.filter_append,List.map_append]
 rw [show a+1*(k-a)=k by omega]
 simp [hs]
theorem fA (a k:Nat):(fK a k).length<=k-a:=by
 unfold fK
 rw [List.length_map]
 refine Nat.le_trans (List.length_filter_le _ _) ?_
 simp
mutual
inductive M:PT->List UInt8->Prop
 | chr {l:List UInt8} {c:UInt8}:c∈l->M (.chr l) [c]
 | seq {l:List PT} {u:List UInt8}:ML l u->M (.seq l) u
 | alt {l:List PT} {t:PT} {u:List UInt8}:t∈l->M t u->M (.alt l) u
 | star {t:PT} {u:List UInt8}:MS t u->M (.rep 42 t) u
 | plus {t:PT} {u v:List UInt8}:M t u->MS t v->M (.rep 43 t) (u++v)
 | optN {t:PT}:M (.rep 63 t) []
 | optY {t:PT} {u:List UInt8}:M t u->M (.rep 63 t) u
inductive ML:List PT->List UInt8->Prop
 | nil:ML [] []
 | cons {t:PT} {l:List PT} {u v:List UInt8}:M t u->ML l v->ML (t::l) (u++v)
inductive MS:PT->List UInt8->Prop
 | nil {t:PT}:MS t []
 | cons {t:PT} {u v:List UInt8}:M t u->MS t v->MS t (u++v)
end
theorem ML.snoc {l:List PT} {u:List UInt8} (h:ML l u) {t:PT} {v:List UInt8} (ht:M t v):ML (l++[t]) (u++v):=by
 match l,u,h with
 | _,_,.nil=>simpa using ML.cons ht .nil
 | _,_,.cons (u:=u1) (v:=u2) h1 h2=>
  rw [List.cons_append,List.append_assoc]
  exact .cons h1 (ML.snoc h2 ht)
termination_by l.length
theorem ML.unsnoc:∀ {l:List PT} {t:PT} {u:List UInt8},ML (l++[t]) u->∃ a b,u=a++b/\ML l a/\M t b
 | [],t,u,h=>by
  cases h with
  | cons h1 h2=>cases h2;exact ⟨[],_,by simp,.nil,h1⟩
 | x::l,t,u,h=>by
  cases h with
  | cons h1 h2=>
   obtain ⟨a,b,e,ha,hb⟩:=ML.unsnoc h2
   exact ⟨_++a,b,by rw [e,List.append_assoc],.cons h1 ha,hb⟩
theorem MS.snoc {t:PT} {u v:List UInt8} (h:MS t u) (ht:M t v):MS t (u++v):=by
 match u,h with
 | _,.nil=>simpa using MS.cons ht .nil
 | _,.cons (u:=u1) (v:=u2) h1 h2=>
  rw [List.append_assoc]
  exact .cons h1 (MS.snoc h2 ht)
termination_by structural h
def fP (d:List UInt8) (i j:Nat):List UInt8:=(d.drop i).take (j-i)
theorem sub_self (d:List UInt8) (i:Nat):fP d i i=[]:=by simp [fP]
theorem jK (d:List UInt8) (i k j:Nat) (h1:i<=k) (h2:k<=j):fP d i k++fP d k j=fP d i j:=by
 unfold fP
 have:(d.drop i).take (j-i)=(d.drop i).take (k-i)++((d.drop i).drop (k-i)).take (j-k):=by
  rw [← List.take_add];congr 1;omega
 rw [this,List.drop_drop,show i+(k-i)=k by omega]
theorem fJ (d:List UInt8) (i j:Nat) (hj:j<=d.length):(fP d i j).length=j-i:=by
 simp [fP];omega
theorem yG {d:List UInt8} {i j:Nat} (kD:i<=j) (hj:j<=d.length) {a b:List UInt8} (h:fP d i j=a++b):∃ k,i<=k/\k<=j/\a=fP d i k/\b=fP d k j:=by
 have hl:=congrArg List.length h
 rw [fJ d i j hj,List.length_append] at hl
 refine ⟨i+a.length,by omega,by omega,?_⟩
 have h1:=jK d i (i+a.length) j (by omega) (by omega)
 rw [h] at h1
 have h2:(fP d i (i+a.length)).length=a.length:=by rw [fJ d i _ (by omega)];omega
 obtain ⟨e1,e2⟩:=List.append_inj h1 h2
 exact ⟨e1.symm,e2.symm⟩
theorem YN (d:List UInt8) (i j:Nat) (c:UInt8) (kD:i<=j) (hj:j<=d.length) (h:fP d i j=[c]):j=i+1/\d[i]? = some c:=by
 have hl:=congrArg List.length h
 rw [fJ d i j hj] at hl
 simp at hl
 obtain rfl:j=i+1:=by omega
 refine ⟨rfl,?_⟩
 have h0:=congrArg (fun l=>l[0]?) h
 simpa [fP] using h0
theorem T9 (d:List UInt8) (i:Nat) (c:UInt8) (h:d[i]? = some c):fP d i (i+1)=[c]:=by
 have hlt:=(List.getElem?_eq_some_iff.1 h).1
 unfold fP
 rw [show i+1-i=1 by omega,List.drop_eq_getElem_cons hlt,(List.getElem?_eq_some_iff.1 h).2]
 rfl
theorem o7 (d:List UInt8):fP d 0 d.length=d:=by simp [fP]
def wB (p:List UInt8->Prop) (d:List UInt8) (f f':Nat->Bool):Prop:=∀ j,j<=d.length->(f' j=true↔∃ i,i<=j/\f i=true/\p (fP d i j))
theorem wB.seq0 (d:List UInt8) (f:Nat->Bool):wB (ML []) d f f:=by
 intro j hj
 constructor
 ·intro h;exact ⟨j,Nat.le_refl _,h,by rw [sub_self];exact .nil⟩
 ·rintro ⟨i,hi,hf,hm⟩
  have:fP d i j=[]:=by generalize fP d i j=u at hm;cases hm;rfl
  have hl:=congrArg List.length this
  rw [fJ d i j hj] at hl
  simp at hl
  obtain rfl:i=j:=by omega
  exact hf
theorem wB.seq1 {d:List UInt8} {f f1 f2:Nat->Bool} {l:List PT} {t:PT} (h1:wB (ML l) d f f1) (h2:wB (M t) d f1 f2):wB (ML (l++[t])) d f f2:=by
 intro j hj
 rw [h2 j hj]
 constructor
 ·rintro ⟨k,hk,hf,hm⟩
  obtain ⟨i,hi,hfi,hmi⟩:=(h1 k (by omega)).1 hf
  exact ⟨i,by omega,hfi,by rw [← jK d i k j hi hk];exact hmi.snoc hm⟩
 ·rintro ⟨i,hi,hf,hm⟩
  obtain ⟨a,b,e,ha,hb⟩:=hm.unsnoc
  obtain ⟨k,aY,hk2,rfl,rfl⟩:=yG hi hj e
  exact ⟨k,hk2,(h1 k (by omega)).2 ⟨i,aY,hf,ha⟩,hb⟩
theorem wB.seqM {d:List UInt8} {f f1:Nat->Bool} {l:List PT} (h:wB (ML l) d f f1):wB (M (.seq l)) d f f1:=by
 intro j hj
 rw [h j hj]
 constructor
 ·rintro ⟨i,hi,hf,hm⟩;exact ⟨i,hi,hf,.seq hm⟩
 ·rintro ⟨i,hi,hf,hm⟩
  refine ⟨i,hi,hf,?_⟩
  generalize fP d i j=u at hm
  cases hm with | seq h=>exact h
theorem wB.alt0 (d:List UInt8) (f:Nat->Bool):wB (M (.alt [])) d f (fun _=>false):=by
 intro j hj
 simp
 intro i hi hf hm
 generalize fP d i j=u at hm
 cases hm with | alt h _=>cases h
theorem wB.alt1 {d:List UInt8} {f f1 f2:Nat->Bool} {l:List PT} {t:PT} (h1:wB (M (.alt l)) d f f1) (h2:wB (M t) d f f2):wB (M (.alt (l++[t]))) d f (fun j=>f1 j||f2 j):=by
 intro j hj
 simp only [Bool.or_eq_true]
 rw [h1 j hj,h2 j hj]
 constructor
 ·rintro (⟨i,hi,hf,hm⟩ | ⟨i,hi,hf,hm⟩)
  ·refine ⟨i,hi,hf,?_⟩
   generalize fP d i j=u at hm
   cases hm with | alt h hm=>exact .alt (List.mem_append_left _ h) hm
  ·exact ⟨i,hi,hf,.alt (by simp) hm⟩
 ·rintro ⟨i,hi,hf,hm⟩
  generalize hu:fP d i j=u at hm
  cases hm with
  | alt h hm=>
   subst hu
   rcases List.mem_append.1 h with h | h
   ·exact Or.inl ⟨i,hi,hf,.alt h hm⟩
   ·obtain rfl:=List.mem_singleton.1 h
    exact Or.inr ⟨i,hi,hf,hm⟩
theorem wB.opt {d:List UInt8} {f f1:Nat->Bool} {t:PT} (h:wB (M t) d f f1):wB (M (.rep 63 t)) d f (fun j=>f j||f1 j):=by
 intro j hj
 simp only [Bool.or_eq_true]
 rw [h j hj]
 constructor
 ·rintro (hf | ⟨i,hi,hf,hm⟩)
  ·exact ⟨j,Nat.le_refl _,hf,by rw [sub_self];exact .optN⟩
  ·exact ⟨i,hi,hf,.optY hm⟩
 ·rintro ⟨i,hi,hf,hm⟩
  generalize hu:fP d i j=u at hm
  cases hm with
  | optN=>
   have hl:=congrArg List.length hu
   rw [fJ d i j hj] at hl
   simp at hl
   obtain rfl:i=j:=by omega
   exact Or.inl hf
  | optY hm=>subst hu;exact Or.inr ⟨i,hi,hf,hm⟩
theorem wB.chr {d:List UInt8} {f f1:Nat->Bool} {l:List UInt8} (h0:f1 0=false) (h:∀ i c,d[i]? = some c->f1 (i+1)=(f i&&l.contains c)):wB (M (.chr l)) d f f1:=by
 intro j hj
 constructor
 ·intro hf
  match j,hj,hf with
  | 0,_,hf=>rw [h0] at hf;cases hf
  | i+1,hj,hf=>
   have hc:d[i]? = some d[i]:=List.getElem?_eq_getElem (by omega)
   rw [h i _ hc] at hf
   simp only [Bool.and_eq_true,List.contains_iff_mem] at hf
   exact ⟨i,by omega,hf.1,by rw [T9 d i _ hc];exact .chr hf.2⟩
 ·rintro ⟨i,hi,hf,hm⟩
  generalize hu:fP d i j=u at hm
  cases hm with
  | chr hc=>
   obtain ⟨rfl,hd⟩:=YN d i j _ hi hj hu
   rw [h i _ hd,hf]
   simpa using hc
def yO (n:Nat) (f:Nat->Bool):Nat:=((List.range n).filter fun j => !f j).length
theorem ZS {n:Nat} {f f':Nat->Bool} (h:∀ j,j<n->f j=true->f' j=true):yO n f'<=yO n f:=by
 unfold yO
 induction n with
 | zero=>simp
 | succ n ih=>
  have ih:=ih (fun j hj=>h j (by omega))
  rw [List.range_succ,List.filter_append,List.filter_append,List.length_append,List.length_append]
  have:=h n (by omega)
  cases h1:f n with
  | true=>simp [this h1,h1];exact ih
  | false=>cases h2:f' n <;> simp [h1,h2] <;> omega
theorem KP {n:Nat} {f f':Nat->Bool} (h:∀ j,j<n->f j=true->f' j=true) (k:Nat) (hk:k<n) (h1:f k=false) (h2:f' k=true):yO n f'<yO n f:=by
 unfold yO
 induction n with
 | zero=>omega
 | succ n ih=>
  rw [List.range_succ,List.filter_append,List.filter_append,List.length_append,List.length_append]
  by_cases hkn:k=n
  ·subst hkn
   have:=ZS (n:=k) (f:=f) (f':=f') (fun j hj=>h j (by omega))
   unfold yO at this
   simp [h1,h2]
   omega
  ·have ih:=ih (fun j hj=>h j (by omega)) (by omega)
   have:=h n (by omega)
   cases h3:f n with
   | true=>simp [this h3,h3];exact ih
   | false=>cases h4:f' n <;> simp [h3,h4] <;> omega
structure fT (st:Bool) (t:PT) (d:List UInt8) (f out at_:Nat->Bool):Prop where
 snd:∀ j,j<=d.length->out j=true->∃ i,i<=j/\f i=true/\(if st then MS t (fP d i j) else M (.rep 43 t) (fP d i j))
 ats:∀ j,j<=d.length->at_ j=true->∃ i,i<=j/\f i=true/\MS t (fP d i j)
 src:st=true->∀ j,j<=d.length->f j=true->out j=true
 cl:∀ p,p<=d.length->(f p=true\/out p=true)->at_ p=true\/∀ k,p<=k->k<=d.length->M t (fP d p k)->out k=true
theorem fT.start (t:PT) (d:List UInt8) (f:Nat->Bool):fT true t d f f f where
 snd:=fun j _ h=>⟨j,Nat.le_refl _,h,by rw [sub_self];exact .nil⟩
 ats:=fun j _ h=>⟨j,Nat.le_refl _,h,by rw [sub_self];exact .nil⟩
 src:=fun _ _ _ h=>h
 cl:=fun p _ h=>Or.inl (h.elim id id)
theorem fT.plus (t:PT) (d:List UInt8) (f:Nat->Bool):fT false t d f (fun _=>false) f where
 snd:=fun j _ h=>by cases h
 ats:=fun j _ h=>⟨j,Nat.le_refl _,h,by rw [sub_self];exact .nil⟩
 src:=fun h=>by cases h
 cl:=fun p _ h=>Or.inl (h.elim id (fun h=>by cases h))
theorem M.plus_of {t:PT} {u v:List UInt8} (h:MS t u) (hv:M t v):M (.rep 43 t) (u++v):=by
 cases h with
 | nil=>simpa using M.plus hv .nil
 | cons h1 h2=>
  rw [List.append_assoc]
  exact .plus h1 (h2.snoc hv)
theorem fT.step {st:Bool} {t:PT} {d:List UInt8} {f out at_ at1:Nat->Bool} (h:fT st t d f out at_) (hv:wB (M t) d at_ at1):
  fT st t d f (fun j=>out j||(at1 j && !out j)) (fun j=>at1 j && !out j):=by
 have UF:∀ j,j<=d.length->at1 j=true->∃ i,i<=j/\f i=true/\(if st then MS t (fP d i j) else M (.rep 43 t) (fP d i j))/\MS t (fP d i j):=by
  intro j hj iS
  obtain ⟨k,hk,aY,hm⟩:=(hv j hj).1 iS
  obtain ⟨i,hi,hf,xI⟩:=h.ats k (by omega) aY
  refine ⟨i,by omega,hf,?_,by rw [← jK d i k j hi hk];exact xI.snoc hm⟩
  rw [← jK d i k j hi hk]
  cases st
  ·exact M.plus_of xI hm
  ·exact xI.snoc hm
 exact {
  snd:=by
   intro j hj iS
   simp only [Bool.or_eq_true,Bool.and_eq_true] at iS
   rcases iS with h1 | ⟨h1,_⟩
   ·exact h.snd j hj h1
   ·obtain ⟨i,a,b,c,_⟩:=UF j hj h1
    exact ⟨i,a,b,c⟩
  ats:=by
   intro j hj iS
   simp only [Bool.and_eq_true] at iS
   obtain ⟨i,a,b,_,c⟩:=UF j hj iS.1
   exact ⟨i,a,b,c⟩
  src:=fun hs j hj hf=>by simp [h.src hs j hj hf]
  cl:=by
   intro p hp aGT
   by_cases CP:(at1 p && !out p)=true
   ·exact Or.inl CP
   ·right
    intro k aY hk2 hm
    have hp':f p=true\/out p=true:=by
     rcases aGT with h1 | h1
     ·exact Or.inl h1
     ·simp only [Bool.or_eq_true] at h1
      exact Or.inr (h1.resolve_right CP)
    rcases h.cl p hp hp' with h1 | h1
    ·have:at1 k=true:=(hv k hk2).2 ⟨p,aY,h1,hm⟩
     cases out k <;> simp [this]
    ·simp [h1 k aY hk2 hm]}
theorem MS.reach {t:PT} {d:List UInt8} {out:Nat->Bool} (dU:∀ p k,p<=k->k<=d.length->out p=true->M t (fP d p k)->out k=true) {v:List UInt8} (h:MS t v):∀ p k,p<=k->k<=d.length->out p=true->fP d p k=v->out k=true:=by
 match v,h with
 | _,.nil=>
  intro p k hk fV hp hs
  have hl:=congrArg List.length hs
  rw [fJ d p k fV] at hl
  simp at hl
  obtain rfl:p=k:=by omega
  exact hp
 | _,.cons (u:=u1) (v:=u2) h1 h2=>
  intro p k hk fV hp hs
  obtain ⟨m,qZ,lV,e1,e2⟩:=yG hk fV hs
  exact MS.reach dU h2 m k lV fV (dU p m qZ (by omega) hp (e1▸h1)) e2.symm
termination_by structural h
theorem fT.done {st:Bool} {t:PT} {d:List UInt8} {f out at_:Nat->Bool} (h:fT st t d f out at_) (hno:∀ j,j<=d.length->at_ j=false):wB (M (.rep (if st then 42 else 43) t)) d f out:=by
 have dU:∀ p,p<=d.length->(f p=true\/out p=true)->∀ k,p<=k->k<=d.length->M t (fP d p k)->out k=true:=by
  intro p hp hs
  rcases h.cl p hp hs with h1 | h1
  ·rw [hno p hp] at h1;cases h1
  ·exact h1
 have TN:∀ (v:List UInt8),MS t v->∀ p k,p<=k->k<=d.length->out p=true->fP d p k=v->out k=true:=
  fun v hv=>MS.reach (fun p k h1 h2 h3 h4=>dU p (by omega) (Or.inr h3) k h1 h2 h4) hv
 intro j hj
 constructor
 ·intro ho
  obtain ⟨i,hi,hf,hm⟩:=h.snd j hj ho
  refine ⟨i,hi,hf,?_⟩
  cases st
  ·exact hm
  ·exact .star hm
 ·rintro ⟨i,hi,hf,hm⟩
  cases st with
  | true=>
   simp only [if_true] at hm
   generalize hu:fP d i j=u at hm
   cases hm with | star hm=>exact TN _ hm i j hi hj (h.src rfl i (by omega) hf) hu
  | false=>
   have hm':M (.rep 43 t) (fP d i j):=hm
   generalize hu:fP d i j=u at hm'
   cases hm' with
   | plus h1 h2=>
    obtain ⟨m,qZ,lV,e1,e2⟩:=yG hi hj hu
    exact TN _ h2 m j lV hj (dU i (by omega) (Or.inl hf) m qZ (by omega) (e1▸h1)) e2.symm
inductive LT where
 | same (l:List PT) (i j:Nat)
 | fixed (l:List PT) (i j:Nat) (view dflt:List UInt8) (at_:Nat)
 | swap (at_:Nat) (a b:LT)
 | group (a:LT)
 | many (at_:Nat) (a:LT)
 | row (l:List LT) (ps:List Nat)
 | choice (l:List LT) (ps:List Nat)
def joinRow:List LT->List Nat->LT
 | [t],_=>t
 | l,ps => .row l ps
def joinAlt:List LT->List Nat->LT
 | [t],_=>t
 | l,ps => .choice l ps
section
variable (s:ByteArray)
def jR (c:Int):Bool:=c==32||c==10
def rY:Nat->Nat->Nat
 | 0,i=>i
 | n+1,i=>if jR (pk s i) then rY n (i+1) else i
def aF (i:Nat):Nat:=rY s (s.size-i) i
def mZ:Nat->Nat->Nat
 | 0,i=>i
 | n+1,i=>if bG (pk s i) then mZ n (i+1) else i
def dL (i:Nat):Nat:=mZ s (s.size-i) i
def bN (i:Nat):cN (List UInt8):=
 if pk s i=34 then (if pk s (dL s (i+1))=34 then .ok (fP s.data.toList (i+1) (dL s (i+1))) (dL s (i+1)+1) else .err (dL s (i+1))) else .err i
def eY (n i:Nat):cN LT:=
 (cI s n (i+1)).bind fun l j=>
  if pk s j=47 then
   (if pk s (aF s (j+1))=34 then
    (bN s (aF s (j+1))).bind fun v k=>
     (bN s (aF s k)).bind fun d m => .ok (.fixed l i (j+1) v d (aF s k)) m
   else .ok (.same l i (j+1)) (aF s (j+1)))
  else .err j
def lA (c:Int):Bool:=oD [47,126,40] c
theorem wU:∀ n i,i<=rY s n i/\rY s n i<=i+n
 | 0,i=>by simp [rY]
 | n+1,i=>by
  rw [rY]
  split
  ·have:=wU n (i+1);omega
  ·omega
theorem dK (i:Nat) (h:i<=s.size):i<=aF s i/\aF s i<=s.size:=by
 have:=wU s (s.size-i) i
 unfold aF
 omega
theorem vB (i:Nat) (h:i<s.size) (hb:jR (pk s i)=true):aF s i=aF s (i+1):=by
 unfold aF
 rw [show s.size-i=(s.size-(i+1))+1 by omega,rY,if_pos hb]
theorem pV (i:Nat) (hb:jR (pk s i)=false):aF s i=i:=by
 unfold aF
 cases s.size-i with
 | zero=>rfl
 | succ n=>rw [rY,if_neg (by simp [hb])]
theorem yI:∀ n i,i<=mZ s n i/\mZ s n i<=i+n
 | 0,i=>by simp [mZ]
 | n+1,i=>by
  rw [mZ]
  split
  ·have:=yI n (i+1);omega
  ·omega
theorem tI (i:Nat) (h:i<=s.size):i<=dL s i/\dL s i<=s.size:=by
 have:=yI s (s.size-i) i
 unfold dL
 omega
theorem zV (i:Nat) (h:i<s.size) (hb:bG (pk s i)=true):dL s i=dL s (i+1):=by
 unfold dL
 rw [show s.size-i=(s.size-(i+1))+1 by omega,mZ,if_pos hb]
theorem rZ (i:Nat) (hb:bG (pk s i)=false):dL s i=i:=by
 unfold dL
 cases s.size-i with
 | zero=>rfl
 | succ n=>rw [mZ,if_neg (by simp [hb])]
mutual
def bX:Nat->Nat->cN LT
 | 0,i => .err i
 | n+1,i=>
  if pk s i=47 then eY s (4*s.size+4) i
  else if pk s i=126 then
   (if pk s (aF s (i+1))=40 then
    (aV n (aF s (i+1)+1)).bind fun a j=>
     if pk s j=44 then (aV n (j+1)).bind fun b k=>if pk s k=41 then .ok (.swap i (joinAlt a.1 a.2) (joinAlt b.1 b.2)) (k+1) else .err k
     else .err j
   else .err (aF s (i+1)))
  else if pk s i=40 then (aV n (i+1)).bind fun a j=>if pk s j=41 then .ok (.group (joinAlt a.1 a.2)) (j+1) else .err j
  else .err i
def dT:Nat->Nat->cN LT
 | 0,i => .err i
 | n+1,i=>(bX n i).bind fun t j=>if pk s (aF s j)=42 then .ok (.many (aF s j) t) (aF s (aF s j+1)) else .ok t (aF s j)
def bI:Nat->Nat->cN (List LT×List Nat)
 | 0,i => .err i
 | n+1,i=>(dT n i).bind fun t j=>if lA (pk s j) then (bI n j).map fun x=>(t::x.1,j::x.2) else .ok ([t],[]) j
def aV:Nat->Nat->cN (List LT×List Nat)
 | 0,i => .err i
 | n+1,i=>(bI n (aF s i)).bind fun x j=>if pk s j=124 then (aV n (j+1)).map fun y=>(joinRow x.1 x.2::y.1,j::y.2) else .ok ([joinRow x.1 x.2],[]) j
end
mutual
def form:LT->List UInt8
 | .same _ i j=>fP s.data.toList i j
 | .fixed _ i j v d _=>fP s.data.toList i j++(34::v++[34,34]++d++[34])
 | .swap _ a b=>[126,40]++form a++[44,32]++form b++[41]
 | .group a=>40::form a++[41]
 | .many _ a=>form a++[42]
 | .row l _=>eR [32] l
 | .choice l _=>eR [32,124,32] l
def eR (sep:List UInt8):List LT->List UInt8
 | []=>[]
 | t::l=>form t++lY sep l
def lY (sep:List UInt8):List LT->List UInt8
 | []=>[]
 | t::l=>sep++form t++lY sep l
end
end
mutual
def eX:LT->List (List PT×List UInt8×Nat)
 | .same _ _ _=>[]
 | .fixed l _ _ _ d a=>[(l,d,a)]
 | .swap _ a b=>eX a++eX b
 | .group a=>eX a
 | .many _ a=>eX a
 | .row l _=>dQ l
 | .choice l _=>dQ l
def dQ:List LT->List (List PT×List UInt8×Nat)
 | []=>[]
 | t::l=>eX t++dQ l
end
def cC:List (List PT×List UInt8×Nat)->Option Nat->Prop
 | [],o=>o=none
 | (l,d,a)::r,o=>(M (.alt l) d/\cC r o)\/(¬ M (.alt l) d/\o=some a)
theorem cC.det:∀ {x:List (List PT×List UInt8×Nat)} {o o':Option Nat},cC x o->cC x o'->o=o'
 | [],o,o',h,h'=>by rw [cC] at h h';rw [h,h']
 | (l,d,a)::r,o,o',h,h'=>by
  rw [cC] at h h'
  rcases h with ⟨h1,h2⟩ | ⟨h1,h2⟩ <;> rcases h' with ⟨h3,h4⟩ | ⟨h3,h4⟩
  ·exact cC.det h2 h4
  ·exact absurd h1 h3
  ·exact absurd h3 h1
  ·rw [h2,h4]
theorem cC.app_none:∀ {x y:List (List PT×List UInt8×Nat)} {o:Option Nat},cC x none->cC y o->cC (x++y) o
 | [],y,o,_,h=>h
 | (l,d,a)::r,y,o,h,h'=>by
  rw [cC] at h
  rw [List.cons_append,cC]
  rcases h with ⟨h1,h2⟩ | ⟨_,h2⟩
  ·exact Or.inl ⟨h1,cC.app_none h2 h'⟩
  ·cases h2
theorem cC.app_some:∀ {x y:List (List PT×List UInt8×Nat)} {a:Nat},cC x (some a)->cC (x++y) (some a)
 | [],y,a,h=>by rw [cC] at h;cases h
 | (l,d,c)::r,y,a,h=>by
  rw [cC] at h
  rw [List.cons_append,cC]
  rcases h with ⟨h1,h2⟩ | ⟨h1,h2⟩
  ·exact Or.inl ⟨h1,cC.app_some h2⟩
  ·exact Or.inr ⟨h1,h2⟩
def rD (wn wn':Int) (x:List (List PT×List UInt8×Nat)):Prop:=
 (wn<0->wn = -1/\∃ o,cC x o/\wn'=(match o with | none => -1 | some a=>(a:Int)))/\(0<=wn->wn'=wn)
theorem rD.nil {wn:Int} (h : -1<=wn):rD wn wn []:=⟨fun h1=>⟨by omega,none,rfl,by show wn = -1;omega⟩,fun _=>rfl⟩
theorem rD.app {a b c:Int} {x y:List (List PT×List UInt8×Nat)} (h:rD a b x) (k:rD b c y):rD a c (x++y):=by
 refine ⟨fun ha=>?_,fun ha=>?_⟩
 ·obtain ⟨h0,o,ho,hb⟩:=h.1 ha
  refine ⟨h0,?_⟩
  cases o with
  | none=>
   simp only at hb
   obtain ⟨_,o',xY,hc⟩:=k.1 (by omega)
   exact ⟨o',ho.app_none xY,hc⟩
  | some p=>
   simp only at hb
   exact ⟨some p,ho.app_some,by rw [k.2 (by omega),hb]⟩
 ·rw [k.2 (by rw [h.2 ha];exact ha),h.2 ha]
def gM:List PT->PT
 | [t]=>t
 | l => .seq l
def rF:List PT->PT
 | [t]=>t
 | l => .alt l
mutual
def nf:PT->PT
 | .chr l => .chr l
 | .seq l=>gM (uP l)
 | .alt l=>rF (uP l)
 | .rep c t => .rep c (nf t)
def uP:List PT->List PT
 | []=>[]
 | t::l=>nf t::uP l
end
theorem V3:∀ (l k:List PT),uP (l++k)=uP l++uP k
 | [],k=>by rw [uP];rfl
 | t::l,k=>by rw [List.cons_append,uP,uP,V3 l k];rfl
theorem zM (l:List PT) (u:List UInt8):M (gM l) u↔ML l u:=by
 have gen:∀ l,M (.seq l) u↔ML l u:=fun l=>⟨fun h=>by cases h;assumption,.seq⟩
 match l with
 | []=>exact gen []
 | [t]=>
  constructor
  ·intro h
   change M t u at h
   have:=ML.cons (l:=[]) h .nil
   simpa using this
  ·intro h
   cases h with
   | cons h1 h2=>cases h2;simpa [gM] using h1
 | t::t2::l=>exact gen _
theorem JH (l:List PT) (u:List UInt8):M (rF l) u↔∃ t,t∈l/\M t u:=by
 have gen:∀ l,M (.alt l) u↔∃ t,t∈l/\M t u:=fun l=>⟨fun h=>by cases h with | alt h1 h2=>exact ⟨_,h1,h2⟩,fun ⟨t,h1,h2⟩ => .alt h1 h2⟩
 match l with
 | []=>exact gen []
 | [t]=>
  constructor
  ·intro h;exact ⟨t,by simp,h⟩
  ·rintro ⟨x,h1,h2⟩
   simp at h1
   subst h1
   exact h2
 | t::t2::l=>exact gen _
theorem MS.to {t t':PT} (H:∀ u,M t u->M t' u) {u:List UInt8} (h:MS t u):MS t' u:=by
 match u,h with
 | _,.nil=>exact .nil
 | _,.cons (u:=u1) (v:=u2) h1 h2=>exact .cons (H _ h1) (MS.to H h2)
termination_by structural h
theorem U3 {c:Int} {t t':PT} (H:∀ u,M t u->M t' u) {u:List UInt8} (h:M (.rep c t) u):M (.rep c t') u:=by
 cases h with
 | star h=>exact .star (h.to H)
 | plus h1 h2=>exact .plus (H _ h1) (h2.to H)
 | optN=>exact .optN
 | optY h=>exact .optY (H _ h)
mutual
theorem AE:∀ (t:PT) (u:List UInt8),M (nf t) u↔M t u
 | .chr l,u=>by rw [nf]
 | .seq l,u=>by
  rw [nf,zM]
  exact (WM l u).trans ⟨.seq,fun h=>by cases h;assumption⟩
 | .alt l,u=>by
  rw [nf,JH]
  exact (aBP l u).trans ⟨fun ⟨t,h1,h2⟩ => .alt h1 h2,fun h=>by cases h with | alt h1 h2=>exact ⟨_,h1,h2⟩⟩
 | .rep c t,u=>by
  rw [nf]
  exact ⟨U3 (fun v h=>(AE t v).1 h),U3 (fun v h=>(AE t v).2 h)⟩
theorem WM:∀ (l:List PT) (u:List UInt8),ML (uP l) u↔ML l u
 | [],u=>by rw [uP]
 | t::l,u=>by
  rw [uP]
  constructor
  ·intro h;cases h with | cons h1 h2=>exact .cons ((AE t _).1 h1) ((WM l _).1 h2)
  ·intro h;cases h with | cons h1 h2=>exact .cons ((AE t _).2 h1) ((WM l _).2 h2)
theorem aBP:∀ (l:List PT) (u:List UInt8),(∃ t,t∈uP l/\M t u)↔∃ t,t∈l/\M t u
 | [],u=>by rw [uP]
 | t::l,u=>by
  rw [uP]
  have h0:=AE t u
  have h1:=aBP l u
  simp only [List.mem_cons,exists_eq_or_imp]
  rw [h0,h1]
end
end Go.Proofs.YtlljggefbngkeaaGreatDoor
namespace Go.Proofs.YtlljggefbngkeaaGreatDoor
open Go.RowKit
def Pt (E:Nat->Nat->Bool):Nat->List Nat->Prop
 | j,[]=>j=0
 | j,i::l=>i<j/\E i j=true/\Pt E i l
end Go.Proofs.YtlljggefbngkeaaGreatDoor
