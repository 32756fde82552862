import Derived.Test.YtlljggefbngkeaaGreatDoorU12
import Derived.Test.YtlljggefbngkeaaGreatDoorU09
import Derived.Test.YtlljggefbngkeaaGreatDoorU01
import Derived.Test.YtlljggefbngkeaaGreatDoorU11
namespace Go.Proofs.YtlljggefbngkeaaGreatDoor
open Go.RowKit
mutual
def bJ:PT->List cA->Nat->List cA×Nat
 | .chr l,S,to=>(S++[⟨l,to,[]⟩],S.length)
 | .seq l,S,to=>fY l S to
 | .alt l,S,to=>((eK l S to).1++[⟨[],0,(eK l S to).2⟩],(eK l S to).1.length)
 | .rep c t,S,to=>
  if c=42\/c=43 then ((bJ t (S++[⟨[],0,[]⟩]) S.length).1.set S.length ⟨[],0,[to,(bJ t (S++[⟨[],0,[]⟩]) S.length).2]⟩,if c=43 then (bJ t (S++[⟨[],0,[]⟩]) S.length).2 else S.length)
  else ((bJ t S to).1++[⟨[],0,[to,(bJ t S to).2]⟩],(bJ t S to).1.length)
def fY:List PT->List cA->Nat->List cA×Nat
 | [],S,to=>(S,to)
 | t::l,S,to=>bJ t (fY l S to).1 (fY l S to).2
def eK:List PT->List cA->Nat->List cA×List Nat
 | [],S,_=>(S,[])
 | t::l,S,to=>((eK l (bJ t S to).1 to).1,(bJ t S to).2::(eK l (bJ t S to).1 to).2)
end
def K7 (S S':List cA):Prop:=S.length<=S'.length/\∀ k,k<S.length->S'[k]? = S[k]?
theorem K7.refl (S:List cA):K7 S S:=⟨Nat.le_refl _,fun _ _=>rfl⟩
theorem K7.trans {A B C:List cA} (h:K7 A B) (k:K7 B C):K7 A C:=⟨Nat.le_trans h.1 k.1,fun i hi=>(k.2 i (Nat.lt_of_lt_of_le hi h.1)).trans (h.2 i hi)⟩
theorem K7.app (S N:List cA):K7 S (S++N):=⟨by simp,fun k hk=>List.getElem?_append_left hk⟩
mutual
theorem cY:∀ (t:PT) (S:List cA) (to:Nat),K7 S (bJ t S to).1
 | .chr l,S,to=>by rw [bJ];exact K7.app _ _
 | .seq l,S,to=>by rw [bJ];exact B8 l S to
 | .alt l,S,to=>by rw [bJ];exact (sH l S to).trans (K7.app _ _)
 | .rep c t,S,to=>by
  rw [bJ]
  split
  ·have h:=(K7.app S [⟨[],0,[]⟩]).trans (cY t (S++[⟨[],0,[]⟩]) S.length)
   refine ⟨by simpa using h.1,fun k hk=>?_⟩
   show (List.set _ _ _)[k]? = _
   rw [List.getElem?_set_ne (by omega)]
   exact h.2 k hk
  ·exact (cY t S to).trans (K7.app _ _)
theorem B8:∀ (l:List PT) (S:List cA) (to:Nat),K7 S (fY l S to).1
 | [],S,to=>by rw [fY];exact K7.refl _
 | t::l,S,to=>by rw [fY];exact (B8 l S to).trans (cY t _ _)
theorem sH:∀ (l:List PT) (S:List cA) (to:Nat),K7 S (eK l S to).1
 | [],S,to=>by rw [eK];exact K7.refl _
 | t::l,S,to=>by rw [eK];exact (cY t S to).trans (sH l _ to)
end
inductive jF (F:List cA):Nat->Nat->List UInt8->Nat->Prop
 | refl (a:Nat):jF F 0 a [] a
 | sign {k a:Nat} {p:cA} {c:UInt8} {u:List UInt8} {e:Nat}:F[a]? = some p->c∈p.set->jF F k p.nx u e->jF F (k+1) a (c::u) e
 | free {k a:Nat} {p:cA} {x:Nat} {u:List UInt8} {e:Nat}:F[a]? = some p->x∈p.free->jF F k x u e->jF F (k+1) a u e
def Lays (T:List UInt8->Prop) (F:List cA) (lo hi f to:Nat):Prop:=
 ∀ e,¬ (lo<=e/\e<hi)->
  (∀ k u,jF F k f u e->∃ u1 u2 k',u=u1++u2/\T u1/\k'<=k/\jF F k' to u2 e)/\(∀ u1 u2 k,T u1->jF F k to u2 e->∃ k',jF F k' f (u1++u2) e)
def aGA (l:List PT) (F:List cA) (lo hi:Nat) (fs:List Nat) (to:Nat):Prop:=
 ∀ e,¬ (lo<=e/\e<hi)->
  (∀ x∈fs,∀ k u,jF F k x u e->∃ t∈l,∃ u1 u2 k',u=u1++u2/\M t u1/\k'<=k/\jF F k' to u2 e)/\(∀ t∈l,∀ u1 u2 k,M t u1->jF F k to u2 e->∃ x∈fs,∃ k',jF F k' x (u1++u2) e)
theorem jF.only {F:List cA} {k a:Nat} {p:cA} {u:List UInt8} {e:Nat} (h:jF F k a u e) (hp:F[a]? = some p) (hs:p.set=[]) (hne:e≠a):∃ x∈p.free,∃ k',k=k'+1/\jF F k' x u e:=by
 cases h with
 | refl=>exact absurd rfl hne
 | sign h1 h2 h3=>rw [hp] at h1;cases h1;rw [hs] at h2;cases h2
 | free h1 h2 h3=>rw [hp] at h1;cases h1;exact ⟨_,h2,_,rfl,h3⟩
theorem yH {F:List cA} {a to first e:Nat} {t:PT} (hl:F[a]? = some ⟨[],0,[to,first]⟩) (i2:∀ u1 u2 k,M t u1->jF F k a u2 e->∃ k',jF F k' first (u1++u2) e) {u2:List UInt8} {k:Nat} (hg:jF F k to u2 e) {u1:List UInt8} (h:MS t u1):∃ k',jF F k' a (u1++u2) e:=by
 match u1,h with
 | _,.nil=>exact ⟨_,jF.free hl (by simp) hg⟩
 | _,.cons (u:=v1) (v:=v2) h1 h2=>
  obtain ⟨k1,hg1⟩:=yH hl i2 hg h2
  obtain ⟨k2,hg2⟩:=i2 v1 (v2++u2) k1 h1 hg1
  exact ⟨_,jF.free hl (x:=first) (by simp) (by rw [List.append_assoc];exact hg2)⟩
termination_by structural h
def iF (F S S':List cA):Prop:=∀ k,S.length<=k->k<S'.length->F[k]? = S'[k]?
theorem iF.left {F S A B:List cA} (h:iF F S B) (hx:K7 A B):iF F S A:=fun k h1 h2=>(h k h1 (Nat.lt_of_lt_of_le h2 hx.1)).trans (hx.2 k h2)
theorem iF.right {F S A B:List cA} (h:iF F S B) (hx:S.length<=A.length):iF F A B:=fun k h1 h2=>h k (Nat.le_trans hx h1) h2
theorem iF.last {F S A:List cA} {p:cA} (h:iF F S (A++[p])) (hx:S.length<=A.length):F[A.length]? = some p:=by
 rw [h A.length hx (by simp)];simp
mutual
theorem pJ:∀ (t:PT) (_:aX t) (S:List cA) (to:Nat) (F:List cA),iF F S (bJ t S to).1->Lays (M t) F S.length (bJ t S to).1.length (bJ t S to).2 to
 | .chr l,_,S,to,F,h=>by
  rw [bJ] at *
  have hl:=iF.last h (Nat.le_refl _)
  intro e he
  have hne:e≠S.length:=fun h=>he ⟨by omega,by simp;omega⟩
  refine ⟨fun k u hg=>?_,fun u1 u2 k hm hg=>?_⟩
  ·cases hg with
   | refl=>exact absurd rfl hne
   | sign h1 h2 h3=>rw [hl] at h1;cases h1;exact ⟨[_],_,_,rfl,M.chr h2,Nat.le_succ _,h3⟩
   | free h1 h2 h3=>rw [hl] at h1;cases h1;cases h2
  ·cases hm with
   | chr hc=>exact ⟨_,jF.sign hl hc hg⟩
 | .seq l,ok,S,to,F,h=>by
  rw [aX] at ok
  rw [bJ] at *
  intro e he
  obtain ⟨h1,h2⟩:=BB l ok S to F h e he
  refine ⟨fun k u hg=>?_,fun u1 u2 k hm hg=>?_⟩
  ·obtain ⟨u1,u2,k',a,b,c,d⟩:=h1 k u hg
   exact ⟨u1,u2,k',a,M.seq b,c,d⟩
  ·cases hm with
   | seq hm=>exact h2 u1 u2 k hm hg
 | .alt l,ok,S,to,F,h=>by
  rw [aX] at ok
  rw [bJ] at *
  have hx:=sH l S to
  have hl:=iF.last h hx.1
  intro e he
  have hne:e≠(eK l S to).1.length:=fun h=>he ⟨by have:=hx.1;omega,by simp;omega⟩
  obtain ⟨h1,h2⟩:=DW l ok S to F (iF.left h (K7.app _ _)) e (fun hh=>he ⟨hh.1,by simp;omega⟩)
  refine ⟨fun k u hg=>?_,fun u1 u2 k hm hg=>?_⟩
  ·obtain ⟨x,EG,k',rfl,rH⟩:=hg.only hl rfl hne
   obtain ⟨t,ht,u1,u2,k2,a,b,c,d⟩:=h1 x EG k' u rH
   exact ⟨u1,u2,k2,a,M.alt ht b,by omega,d⟩
  ·cases hm with
   | alt ht hm=>
    obtain ⟨x,EG,k',rH⟩:=h2 _ ht u1 u2 k hm hg
    exact ⟨_,jF.free hl EG rH⟩
 | .rep c t,ok,S,to,F,h=>by
  rw [aX] at ok
  rw [bJ] at *
  by_cases hc:c=42\/c=43
  ·rw [if_pos hc] at *
   have hx:=cY t (S++[⟨[],0,[]⟩]) S.length
   have hlen:(S++[(⟨[],0,[]⟩:cA)]).length=S.length+1:=by simp
   have hl:F[S.length]? = some ⟨[],0,[to,(bJ t (S++[⟨[],0,[]⟩]) S.length).2]⟩:=by
    rw [h S.length (Nat.le_refl _) (by simp;have:=hx.1;omega)]
    show (List.set _ _ _)[_]? = _
    rw [List.getElem?_set_self (by have:=hx.1;omega)]
   have hA:iF F (S++[⟨[],0,[]⟩]) (bJ t (S++[⟨[],0,[]⟩]) S.length).1:=fun k h1 h2=>by
    rw [h k (by omega) (by simpa using h2)]
    show (List.set _ _ _)[_]? = _
    rw [List.getElem?_set_ne (by omega)]
   have ih:=pJ t ok.2 _ _ F hA
   generalize (bJ t (S++[⟨[],0,[]⟩]) S.length).2=first at *
   intro e he
   have he':¬ (S.length<=e/\e<(bJ t (S++[⟨[],0,[]⟩]) S.length).1.length):=fun hh=>he (by simpa using hh)
   obtain ⟨i1,i2⟩:=ih e (fun hh=>he' ⟨by omega,hh.2⟩)
   have hne:e≠S.length:=fun h=>he' ⟨by omega,by have:=hx.1;omega⟩
   have star1:∀ n k,k<=n->∀ u,jF F k S.length u e->∃ u1 u2 k',u=u1++u2/\MS t u1/\k'<=k/\jF F k' to u2 e:=by
    intro n
    induction n with
    | zero=>
     intro k hk u hg
     obtain ⟨x,EG,k',rfl,rH⟩:=hg.only hl rfl hne
     omega
    | succ n ihn=>
     intro k hk u hg
     obtain ⟨x,EG,k',rfl,rH⟩:=hg.only hl rfl hne
     simp at EG
     rcases EG with rfl | rfl
     ·exact ⟨[],u,k',rfl,MS.nil,by omega,rH⟩
     ·obtain ⟨u1,u2,k2,rfl,b1,c1,d1⟩:=i1 k' u rH
      obtain ⟨u3,u4,k3,rfl,b2,c2,d2⟩:=ihn k2 (by omega) u2 d1
      exact ⟨u1++u3,u4,k3,by simp,MS.cons b1 b2,by omega,d2⟩
   rcases hc with rfl | rfl
   ·rw [if_neg (by decide)]
    refine ⟨fun k u hg=>?_,fun u1 u2 k hm hg=>?_⟩
    ·obtain ⟨u1,u2,k',a,b,c,d⟩:=star1 k k (Nat.le_refl _) u hg
     exact ⟨u1,u2,k',a,M.star b,c,d⟩
    ·cases hm with
     | star hm=>exact yH hl i2 hg hm
   ·rw [if_pos rfl]
    refine ⟨fun k u hg=>?_,fun u1 u2 k hm hg=>?_⟩
    ·obtain ⟨u1,u2,k2,rfl,b1,c1,d1⟩:=i1 k u hg
     obtain ⟨u3,u4,k3,rfl,b2,c2,d2⟩:=star1 k2 k2 (Nat.le_refl _) u2 d1
     exact ⟨u1++u3,u4,k3,by simp,M.plus b1 b2,by omega,d2⟩
    ·cases hm with
     | plus m1 m2=>
      obtain ⟨k1,hg1⟩:=yH hl i2 hg m2
      obtain ⟨k2,hg2⟩:=i2 _ _ k1 m1 hg1
      exact ⟨k2,by rw [List.append_assoc];exact hg2⟩
  ·rw [if_neg hc] at *
   have aHH:c=63:=by rcases ok.1 with h | h | h <;> simp_all
   subst aHH
   have hx:=cY t S to
   have hl:=iF.last h hx.1
   intro e he
   have hne:e≠(bJ t S to).1.length:=fun h=>he ⟨by have:=hx.1;omega,by simp;omega⟩
   obtain ⟨h1,h2⟩:=pJ t ok.2 S to F (iF.left h (K7.app _ _)) e (fun hh=>he ⟨hh.1,by simp;omega⟩)
   refine ⟨fun k u hg=>?_,fun u1 u2 k hm hg=>?_⟩
   ·obtain ⟨x,EG,k',rfl,rH⟩:=hg.only hl rfl hne
    simp at EG
    rcases EG with rfl | rfl
    ·exact ⟨[],u,k',rfl,M.optN,by omega,rH⟩
    ·obtain ⟨u1,u2,k2,a,b,c,d⟩:=h1 k' u rH
     exact ⟨u1,u2,k2,a,M.optY b,by omega,d⟩
   ·cases hm with
    | optN=>exact ⟨_,jF.free hl (x:=to) (by simp) hg⟩
    | optY hm=>
     obtain ⟨k',rH⟩:=h2 u1 u2 k hm hg
     exact ⟨_,jF.free hl (x:=(bJ t S to).2) (by simp) rH⟩
theorem BB:∀ (l:List PT) (_:bO l) (S:List cA) (to:Nat) (F:List cA),iF F S (fY l S to).1->Lays (ML l) F S.length (fY l S to).1.length (fY l S to).2 to
 | [],_,S,to,F,h=>by
  rw [fY] at *
  intro e he
  refine ⟨fun k u hg=>⟨[],u,k,rfl,ML.nil,Nat.le_refl _,hg⟩,fun u1 u2 k hm hg=>?_⟩
  cases hm
  exact ⟨k,hg⟩
 | t::l,ok,S,to,F,h=>by
  rw [bO] at ok
  rw [fY] at *
  have hx:=B8 l S to
  have hy:=cY t (fY l S to).1 (fY l S to).2
  intro e he
  obtain ⟨h1,h2⟩:=pJ t ok.1 _ _ F (iF.right h hx.1) e (fun hh=>he ⟨Nat.le_trans hx.1 hh.1,hh.2⟩)
  obtain ⟨h3,h4⟩:=BB l ok.2 S to F (iF.left h hy) e (fun hh=>he ⟨hh.1,Nat.lt_of_lt_of_le hh.2 hy.1⟩)
  refine ⟨fun k u hg=>?_,fun u1 u2 k hm hg=>?_⟩
  ·obtain ⟨u1,u2,k2,rfl,b1,c1,d1⟩:=h1 k u hg
   obtain ⟨u3,u4,k3,rfl,b2,c2,d2⟩:=h3 k2 u2 d1
   exact ⟨u1++u3,u4,k3,by simp,ML.cons b1 b2,by omega,d2⟩
  ·cases hm with
   | cons m1 m2=>
    obtain ⟨k3,hg3⟩:=h4 _ u2 k m2 hg
    obtain ⟨k4,hg4⟩:=h2 _ _ k3 m1 hg3
    exact ⟨k4,by rw [List.append_assoc];exact hg4⟩
theorem DW:∀ (l:List PT) (_:bO l) (S:List cA) (to:Nat) (F:List cA),iF F S (eK l S to).1->aGA l F S.length (eK l S to).1.length (eK l S to).2 to
 | [],_,S,to,F,h=>by
  rw [eK] at *
  intro e he
  exact ⟨fun x hx=>(by cases hx),fun t ht=>(by cases ht)⟩
 | t::l,ok,S,to,F,h=>by
  rw [bO] at ok
  rw [eK] at *
  have hx:=cY t S to
  have hy:=sH l (bJ t S to).1 to
  intro e he
  obtain ⟨h1,h2⟩:=pJ t ok.1 S to F (iF.left h hy) e (fun hh=>he ⟨hh.1,Nat.lt_of_lt_of_le hh.2 hy.1⟩)
  obtain ⟨h3,h4⟩:=DW l ok.2 _ to F (iF.right h hx.1) e (fun hh=>he ⟨Nat.le_trans hx.1 hh.1,hh.2⟩)
  refine ⟨fun x EG k u hg=>?_,fun t' ht u1 u2 k hm hg=>?_⟩
  ·rcases List.mem_cons.1 EG with rfl | EG
   ·obtain ⟨u1,u2,k2,a,b,c,d⟩:=h1 k u hg
    exact ⟨t,List.mem_cons_self,u1,u2,k2,a,b,c,d⟩
   ·obtain ⟨t',ht,r⟩:=h3 x EG k u hg
    exact ⟨t',List.mem_cons_of_mem _ ht,r⟩
  ·rcases List.mem_cons.1 ht with rfl | ht
   ·obtain ⟨k',rH⟩:=h2 u1 u2 k hm hg
    exact ⟨_,List.mem_cons_self,k',rH⟩
   ·obtain ⟨x,EG,r⟩:=h4 t' ht u1 u2 k hm hg
    exact ⟨x,List.mem_cons_of_mem _ EG,r⟩
end
def bK (t:PT):List cA×Nat:=bJ t [⟨[],0,[]⟩] 0
theorem CA (t:PT):(bK t).1[0]? = some ⟨[],0,[]⟩:=by
 have h:=cY t [⟨[],0,[]⟩] 0
 exact (h.2 0 (by simp)).trans rfl
theorem jF.zero {F:List cA} (h0:F[0]? = some ⟨[],0,[]⟩) {k:Nat} {u:List UInt8} {e:Nat} (h:jF F k 0 u e):u=[]:=by
 cases h with
 | refl=>rfl
 | sign h1 h2 h3=>rw [h0] at h1;cases h1;cases h2
 | free h1 h2 h3=>rw [h0] at h1;cases h1;cases h2
theorem oK {t:PT} (ok:aX t) (u:List UInt8):(∃ k,jF (bK t).1 k (bK t).2 u 0)↔M t u:=by
 obtain ⟨h1,h2⟩:=pJ t ok [⟨[],0,[]⟩] 0 (bK t).1 (fun _ _ _=>rfl) 0 (by simp)
 constructor
 ·rintro ⟨k,hg⟩
  obtain ⟨u1,u2,k',rfl,hm,_,rH⟩:=h1 k u hg
  rw [jF.zero (CA t) rH,List.append_nil]
  exact hm
 ·intro hm
  obtain ⟨k',hg⟩:=h2 u [] 0 hm (jF.refl 0)
  rw [List.append_nil] at hg
  exact ⟨k',hg⟩
def zK (F:List cA) (a b:Nat):Prop:=∃ k,jF F k a [] b
theorem zK.refl (F:List cA) (a:Nat):zK F a a:=⟨0,jF.refl a⟩
theorem zK.step {F:List cA} {a x b:Nat} {p:cA} (h:F[a]? = some p) (hx:x∈p.free) (hr:zK F x b):zK F a b:=by
 obtain ⟨k,hk⟩:=hr
 exact ⟨_,jF.free h hx hk⟩
theorem jF.first {F:List cA} {k a:Nat} {v:List UInt8} {e:Nat} (h:jF F k a v e):∀ c u,v=c::u->∃ s p,zK F a s/\F[s]? = some p/\c∈p.set/\∃ k',jF F k' p.nx u e:=by
 induction h with
 | refl a=>intro c u h;cases h
 | sign h1 h2 h3 ih=>intro c u h;cases h;exact ⟨_,_,zK.refl F _,h1,h2,_,h3⟩
 | free h1 h2 h3 ih=>
  intro c u h
  obtain ⟨s,p,hr,r⟩:=ih c u h
  exact ⟨s,p,zK.step h1 h2 hr,r⟩
theorem jF.join {F:List cA} {k a:Nat} {v:List UInt8} {s:Nat} (h:jF F k a v s):∀ {k' u e},jF F k' s u e->∃ k'',jF F k'' a (v++u) e:=by
 induction h with
 | refl a=>intro k' u e h;exact ⟨k',h⟩
 | sign h1 h2 h3 ih=>intro k' u e h;obtain ⟨k'',hh⟩:=ih h;exact ⟨_,jF.sign h1 h2 hh⟩
 | free h1 h2 h3 ih=>intro k' u e h;obtain ⟨k'',hh⟩:=ih h;exact ⟨_,jF.free h1 h2 hh⟩
theorem zK.trans {F:List cA} {a b c:Nat} (h:zK F a b) (h':zK F b c):zK F a c:=by
 obtain ⟨k,h⟩:=h
 obtain ⟨k',h'⟩:=h'
 obtain ⟨k'',hh⟩:=h.join h'
 exact ⟨k'',hh⟩
def S9 (F:List cA) (N:List Nat) (u:List UInt8) (e:Nat):Prop:=∃ s∈N,∃ k,jF F k s u e
def Stepped (F:List cA) (N:List Nat) (c:UInt8) (N':List Nat):Prop:=∀ x,x∈N'↔∃ a∈N,∃ s p,zK F a s/\F[s]? = some p/\c∈p.set/\x=p.nx
theorem O2 {F:List cA} {N N':List Nat} {c:UInt8} (h:Stepped F N c N') (u:List UInt8) (e:Nat):S9 F N (c::u) e↔S9 F N' u e:=by
 constructor
 ·rintro ⟨a,ha,k,hg⟩
  obtain ⟨s,p,hr,hp,hc,k',rH⟩:=hg.first c u rfl
  exact ⟨p.nx,(h _).2 ⟨a,ha,s,p,hr,hp,hc,rfl⟩,k',rH⟩
 ·rintro ⟨x,hx,k,hg⟩
  obtain ⟨a,ha,s,p,⟨k1,hr⟩,hp,hc,rfl⟩:=(h x).1 hx
  obtain ⟨k2,hg2⟩:=hr.join (jF.sign hp hc hg)
  exact ⟨a,ha,k2,hg2⟩
def kK (ph:Nat):Nat:=if ph=1 then 2 else ph
inductive PW (F:List cA) (gate beh:Nat):Nat->Nat->Nat->List UInt8->Nat->Nat->Nat->Prop
 | refl (ph a b:Nat):PW F gate beh ph a b [] ph a b
 | free1 {ph a b x:Nat} {p:cA} {u:List UInt8} {qh c d:Nat}:F[a]? = some p->x∈p.free->PW F gate beh ph x b u qh c d->PW F gate beh ph a b u qh c d
 | free2 {ph a b x:Nat} {p:cA} {u:List UInt8} {qh c d:Nat}:F[b]? = some p->x∈p.free->PW F gate beh ph a x u qh c d->PW F gate beh ph a b u qh c d
 | part {b:Nat} {u:List UInt8} {qh c d:Nat}:PW F gate beh 1 beh b u qh c d->PW F gate beh 0 gate b u qh c d
 | join {a:Nat} {u:List UInt8} {qh c d:Nat}:PW F gate beh 3 a beh u qh c d->PW F gate beh 2 a gate u qh c d
 | sign {ph a b:Nat} {p q:cA} {s:UInt8} {u:List UInt8} {qh c d:Nat}:F[a]? = some p->F[b]? = some q->s∈p.set->s∈q.set->PW F gate beh (kK ph) p.nx q.nx u qh c d->PW F gate beh ph a b (s::u) qh c d
def jD (F:List cA) (a:Nat) (u:List UInt8) (e:Nat):Prop:=∃ k,jF F k a u e
section
variable {F:List cA} {gate beh:Nat}
theorem jD.refl (a:Nat):jD F a [] a:=⟨0,jF.refl a⟩
theorem jD.sign {a:Nat} {p:cA} {c:UInt8} {u:List UInt8} {e:Nat} (h:F[a]? = some p) (hc:c∈p.set) (hr:jD F p.nx u e):jD F a (c::u) e:=by
 obtain ⟨k,hk⟩:=hr
 exact ⟨_,jF.sign h hc hk⟩
theorem jD.free {a:Nat} {p:cA} {x:Nat} {u:List UInt8} {e:Nat} (h:F[a]? = some p) (hx:x∈p.free) (hr:jD F x u e):jD F a u e:=by
 obtain ⟨k,hk⟩:=hr
 exact ⟨_,jF.free h hx hk⟩
theorem jF.split {k a:Nat} {w:List UInt8} {e:Nat} (h:jF F k a w e):∀ u v,w=u++v->∃ m,jD F a u m/\jD F m v e:=by
 induction h with
 | refl a=>
  intro u v h
  have h1:u=[]/\v=[]:=by simpa using h.symm
  rw [h1.1,h1.2]
  exact ⟨a,jD.refl a,jD.refl a⟩
 | @sign k a p c u0 e h1 h2 h3 ih=>
  intro u v h
  cases u with
  | nil=>
   simp at h
   subst h
   exact ⟨a,jD.refl a,jD.sign h1 h2 ⟨_,h3⟩⟩
  | cons c' u=>
   simp at h
   obtain ⟨rfl,rfl⟩:=h
   obtain ⟨m,qZ,lV⟩:=ih u v rfl
   exact ⟨m,jD.sign h1 h2 qZ,lV⟩
 | free h1 h2 h3 ih=>
  intro u v h
  obtain ⟨m,qZ,lV⟩:=ih u v h
  exact ⟨m,jD.free h1 h2 qZ,lV⟩
def aHW (F:List cA) (gate beh e:Nat) (ph a b:Nat) (u:List UInt8):Prop:=
 (ph=3->jD F a u e/\jD F b u e)/\
 (ph=2->∃ u1 u2,u=u1++u2/\jD F a u e/\jD F b u1 gate/\jD F beh u2 e)/\
 (ph=1->∃ u1 u2,u=u1++u2/\u1≠[]/\jD F a u e/\jD F b u1 gate/\jD F beh u2 e)/\
 (ph=0->∃ w u1 u2,u=w++(u1++u2)/\u1≠[]/\jD F a w gate/\jD F beh (u1++u2) e/\jD F b (w++u1) gate/\jD F beh u2 e)
theorem KH {e:Nat} {ph a b:Nat} {u:List UInt8} {qh c d:Nat} (h:PW F gate beh ph a b u qh c d):qh=3->c=e->d=e->aHW F gate beh e ph a b u:=by
 induction h with
 | refl ph a b=>
  rintro rfl rfl rfl
  exact ⟨fun _=>⟨jD.refl _,jD.refl _⟩,fun h=>(by omega),fun h=>(by omega),fun h=>(by omega)⟩
 | free1 h1 h2 h3 ih=>
  intro e1 e2 e3
  obtain ⟨i3,i2,i1,i0⟩:=ih e1 e2 e3
  refine ⟨fun h=>?_,fun h=>?_,fun h=>?_,fun h=>?_⟩
  ·exact ⟨jD.free h1 h2 (i3 h).1,(i3 h).2⟩
  ·obtain ⟨u1,u2,q1,q2,q3,q4⟩:=i2 h
   exact ⟨u1,u2,q1,jD.free h1 h2 q2,q3,q4⟩
  ·obtain ⟨u1,u2,q1,q0,q2,q3,q4⟩:=i1 h
   exact ⟨u1,u2,q1,q0,jD.free h1 h2 q2,q3,q4⟩
  ·obtain ⟨w,u1,u2,q1,q0,q2,q3,q4,q5⟩:=i0 h
   exact ⟨w,u1,u2,q1,q0,jD.free h1 h2 q2,q3,q4,q5⟩
 | free2 h1 h2 h3 ih=>
  intro e1 e2 e3
  obtain ⟨i3,i2,i1,i0⟩:=ih e1 e2 e3
  refine ⟨fun h=>?_,fun h=>?_,fun h=>?_,fun h=>?_⟩
  ·exact ⟨(i3 h).1,jD.free h1 h2 (i3 h).2⟩
  ·obtain ⟨u1,u2,q1,q2,q3,q4⟩:=i2 h
   exact ⟨u1,u2,q1,q2,jD.free h1 h2 q3,q4⟩
  ·obtain ⟨u1,u2,q1,q0,q2,q3,q4⟩:=i1 h
   exact ⟨u1,u2,q1,q0,q2,jD.free h1 h2 q3,q4⟩
  ·obtain ⟨w,u1,u2,q1,q0,q2,q3,q4,q5⟩:=i0 h
   exact ⟨w,u1,u2,q1,q0,q2,q3,jD.free h1 h2 q4,q5⟩
 | @part b u qh c d h1 ih=>
  intro e1 e2 e3
  obtain ⟨_,_,i1,_⟩:=ih e1 e2 e3
  refine ⟨fun h=>(by omega),fun h=>(by omega),fun h=>(by omega),fun _=>?_⟩
  obtain ⟨u1,u2,q1,q0,q2,q3,q4⟩:=i1 rfl
  exact ⟨[],u1,u2,by simpa using q1,q0,jD.refl _,by rw [← q1];exact q2,by simpa using q3,q4⟩
 | @join a u qh c d h1 ih=>
  intro e1 e2 e3
  obtain ⟨i3,_,_,_⟩:=ih e1 e2 e3
  refine ⟨fun h=>(by omega),fun _=>?_,fun h=>(by omega),fun h=>(by omega)⟩
  obtain ⟨q1,q2⟩:=i3 rfl
  exact ⟨[],u,by simp,q1,jD.refl _,q2⟩
 | @sign ph a b p q s u qh c d h1 h2 h3 h4 h5 ih=>
  intro e1 e2 e3
  obtain ⟨i3,i2,i1,i0⟩:=ih e1 e2 e3
  unfold kK at i3 i2 i1 i0
  refine ⟨fun h=>?_,fun h=>?_,fun h=>?_,fun h=>?_⟩
  ·subst h
   obtain ⟨q1,q2⟩:=i3 rfl
   exact ⟨jD.sign h1 h3 q1,jD.sign h2 h4 q2⟩
  ·subst h
   obtain ⟨u1,u2,q1,q2,q3,q4⟩:=i2 rfl
   exact ⟨s::u1,u2,by simp [q1],jD.sign h1 h3 q2,jD.sign h2 h4 q3,q4⟩
  ·subst h
   obtain ⟨u1,u2,q1,q2,q3,q4⟩:=i2 rfl
   exact ⟨s::u1,u2,by simp [q1],by simp,jD.sign h1 h3 q2,jD.sign h2 h4 q3,q4⟩
  ·subst h
   obtain ⟨w,u1,u2,q1,q0,q2,q3,q4,q5⟩:=i0 rfl
   exact ⟨s::w,u1,u2,by simp [q1],q0,jD.sign h1 h3 q2,q3,by simpa using jD.sign h2 h4 q4,q5⟩
theorem PW.rch1 {k a x:Nat} {v:List UInt8} (hr:jF F k a v x):v=[]->∀ {ph b:Nat} {u:List UInt8} {qh c d:Nat},PW F gate beh ph x b u qh c d->PW F gate beh ph a b u qh c d:=by
 induction hr with
 | refl a=>intro _ _ _ _ _ _ _ h;exact h
 | sign h1 h2 h3 ih=>intro e;cases e
 | free h1 h2 h3 ih=>intro e _ _ _ _ _ _ h;exact PW.free1 h1 h2 (ih e h)
theorem PW.rch2 {k b x:Nat} {v:List UInt8} (hr:jF F k b v x):v=[]->∀ {ph a:Nat} {u:List UInt8} {qh c d:Nat},PW F gate beh ph a x u qh c d->PW F gate beh ph a b u qh c d:=by
 induction hr with
 | refl a=>intro _ _ _ _ _ _ _ h;exact h
 | sign h1 h2 h3 ih=>intro e;cases e
 | free h1 h2 h3 ih=>intro e _ _ _ _ _ _ h;exact PW.free2 h1 h2 (ih e h)
theorem PW.both {ph:Nat} (XD:ph≠1):∀ (u:List UInt8) {a b a' b':Nat} {v:List UInt8} {qh c d:Nat},jD F a u a'->jD F b u b'->PW F gate beh ph a' b' v qh c d->PW F gate beh ph a b (u++v) qh c d
 | [],a,b,a',b',v,qh,c,d,⟨k,ha⟩,⟨k',hb⟩,h=>PW.rch1 ha rfl (PW.rch2 hb rfl h)
 | s::u,a,b,a',b',v,qh,c,d,⟨k,ha⟩,⟨k',hb⟩,h=>by
  obtain ⟨x,p,⟨kx,hx⟩,hp,hsp,hx'⟩:=ha.first s u rfl
  obtain ⟨y,q,⟨ky,hy⟩,hq,hsq,hy'⟩:=hb.first s u rfl
  refine PW.rch1 hx rfl (PW.rch2 hy rfl (PW.sign hp hq hsp hsq ?_))
  rw [show kK ph=ph by unfold kK;rw [if_neg XD]]
  exact PW.both XD u hx' hy' h
theorem PW.both1 (u:List UInt8) (hu:u≠[]) {a b a' b':Nat} {v:List UInt8} {qh c d:Nat} (ha:jD F a u a') (hb:jD F b u b') (h:PW F gate beh 2 a' b' v qh c d):PW F gate beh 1 a b (u++v) qh c d:=by
 cases u with
 | nil=>exact absurd rfl hu
 | cons s u=>
  obtain ⟨k,ha⟩:=ha
  obtain ⟨k',hb⟩:=hb
  obtain ⟨x,p,⟨kx,hx⟩,hp,hsp,hx'⟩:=ha.first s u rfl
  obtain ⟨y,q,⟨ky,hy⟩,hq,hsq,hy'⟩:=hb.first s u rfl
  exact PW.rch1 hx rfl (PW.rch2 hy rfl (PW.sign hp hq hsp hsq (PW.both (by decide) u hx' hy' h)))
theorem aE5 {e a:Nat} {w u1 u2:List UInt8} (hu:u1≠[]) (h1:jD F a w gate) (h2:jD F beh (u1++u2) e) (h3:jD F a (w++u1) gate) (h4:jD F beh u2 e):PW F gate beh 0 a a (w++(u1++u2)) 3 e e:=by
 obtain ⟨k3,h3⟩:=h3
 obtain ⟨m,qZ,lV⟩:=h3.split w u1 rfl
 obtain ⟨k2,h2⟩:=h2
 obtain ⟨m',CR,hm4⟩:=h2.split u1 u2 rfl
 refine PW.both (by decide) w h1 qZ (PW.part (PW.both1 u1 hu CR lV (PW.join ?_)))
 have:=PW.both (F:=F) (gate:=gate) (beh:=beh) (ph:=3) (by decide) u2 (v:=[]) hm4 h4 (PW.refl 3 e e)
 rwa [List.append_nil] at this
theorem aBZ {e a b:Nat} {u:List UInt8} (h1:jD F a u e) (h2:jD F b u e):PW F gate beh 3 a b u 3 e e:=by
 have:=PW.both (F:=F) (gate:=gate) (beh:=beh) (ph:=3) (by decide) u (v:=[]) h1 h2 (PW.refl 3 e e)
 rwa [List.append_nil] at this
end
def ER (ta tb:PT):List cA×Nat×Nat×Nat:=
 let b:=bJ tb [⟨[],0,[]⟩] 0
 let a:=bJ ta (b.1++[⟨[],0,[]⟩]) b.1.length
 (a.1,b.1.length,b.2,a.2)
def iT (ta tb:PT) (s:List UInt8):Prop:=∃ w u1 u2,s=w++(u1++u2)/\u1≠[]/\M ta w/\M tb (u1++u2)/\M ta (w++u1)/\M tb u2
theorem jF.dead {F:List cA} {a:Nat} (h0:F[a]? = some ⟨[],0,[]⟩) {k:Nat} {u:List UInt8} {e:Nat} (h:jF F k a u e):u=[]:=by
 cases h with
 | refl=>rfl
 | sign h1 h2 h3=>rw [h0] at h1;cases h1;cases h2
 | free h1 h2 h3=>rw [h0] at h1;cases h1;cases h2
theorem tO {t:PT} (ok:aX t) {S:List cA} {to:Nat} {F:List cA} (hA:iF F S (bJ t S to).1) (h0:F[to]? = some ⟨[],0,[]⟩) (ho:to<S.length) (u:List UInt8):jD F (bJ t S to).2 u to↔M t u:=by
 obtain ⟨h1,h2⟩:=pJ t ok S to F hA to (fun h=>by omega)
 constructor
 ·rintro ⟨k,hk⟩
  obtain ⟨u1,u2,k',rfl,hm,_,hg⟩:=h1 k u hk
  rw [jF.dead h0 hg,List.append_nil]
  exact hm
 ·intro hm
  obtain ⟨k,hk⟩:=h2 u [] 0 hm (jF.refl to)
  rw [List.append_nil] at hk
  exact ⟨k,hk⟩
section
variable {ta tb:PT}
theorem QK (oka:aX ta) (okb:aX tb):(∀ u,jD (ER ta tb).1 (ER ta tb).2.2.1 u 0↔M tb u)/\(∀ u,jD (ER ta tb).1 (ER ta tb).2.2.2 u (ER ta tb).2.1↔M ta u):=by
 unfold ER
 simp only
 have x1:=cY tb [⟨[],0,[]⟩] 0
 have l1:1<=(bJ tb [⟨[],0,[]⟩] 0).1.length:=by have:=x1.1;simpa using this
 have z1:(bJ tb [⟨[],0,[]⟩] 0).1[0]? = some ⟨[],0,[]⟩:=(x1.2 0 (by simp)).trans rfl
 generalize hb:bJ tb [⟨[],0,[]⟩] 0=b at *
 have x2:=cY ta (b.1++[⟨[],0,[]⟩]) b.1.length
 have x3:K7 b.1 (bJ ta (b.1++[⟨[],0,[]⟩]) b.1.length).1:=(K7.app b.1 [⟨[],0,[]⟩]).trans x2
 have zg:(bJ ta (b.1++[⟨[],0,[]⟩]) b.1.length).1[b.1.length]? = some ⟨[],0,[]⟩:=(x2.2 b.1.length (by simp)).trans (by simp)
 have z0:(bJ ta (b.1++[⟨[],0,[]⟩]) b.1.length).1[0]? = some ⟨[],0,[]⟩:=(x3.2 0 (by omega)).trans z1
 constructor
 ·intro u
  have:=tO (t:=tb) okb (S:=[⟨[],0,[]⟩]) (to:=0) (F:=(bJ ta (b.1++[⟨[],0,[]⟩]) b.1.length).1) (fun k _ h2=>by rw [hb] at h2 ⊢;exact x3.2 k h2) z0 (by simp) u
  rw [hb] at this
  exact this
 ·intro u
  exact tO (t:=ta) oka (S:=b.1++[⟨[],0,[]⟩]) (to:=b.1.length) (fun k _ _=>rfl) zg (by simp) u
theorem YH (oka:aX ta) (okb:aX tb) (s:List UInt8):PW (ER ta tb).1 (ER ta tb).2.1 (ER ta tb).2.2.1 0 (ER ta tb).2.2.2 (ER ta tb).2.2.2 s 3 0 0↔iT ta tb s:=by
 obtain ⟨hb,ha⟩:=QK oka okb
 constructor
 ·intro h
  obtain ⟨w,u1,u2,q1,q0,q2,q3,q4,q5⟩:=(KH h rfl rfl rfl).2.2.2 rfl
  exact ⟨w,u1,u2,q1,q0,(ha _).1 q2,(hb _).1 q3,(ha _).1 q4,(hb _).1 q5⟩
 ·rintro ⟨w,u1,u2,rfl,q0,q2,q3,q4,q5⟩
  exact aE5 q0 ((ha _).2 q2) ((hb _).2 q3) ((ha _).2 q4) ((hb _).2 q5)
end
def shM (tp tq:PT):List cA×Nat×Nat:=
 let p:=bJ tp [⟨[],0,[]⟩] 0
 let q:=bJ tq p.1 0
 (q.1,p.2,q.2)
theorem YS {tp tq:PT} (okp:aX tp) (okq:aX tq) (gate beh:Nat) (s:List UInt8):PW (shM tp tq).1 gate beh 3 (shM tp tq).2.1 (shM tp tq).2.2 s 3 0 0↔M tp s/\M tq s:=by
 unfold shM
 simp only
 have x1:=cY tp [⟨[],0,[]⟩] 0
 have l1:1<=(bJ tp [⟨[],0,[]⟩] 0).1.length:=by have:=x1.1;simpa using this
 have z1:(bJ tp [⟨[],0,[]⟩] 0).1[0]? = some ⟨[],0,[]⟩:=(x1.2 0 (by simp)).trans rfl
 generalize hp:bJ tp [⟨[],0,[]⟩] 0=p at *
 have x2:=cY tq p.1 0
 have z0:(bJ tq p.1 0).1[0]? = some ⟨[],0,[]⟩:=(x2.2 0 (by omega)).trans z1
 have hP:∀ u,jD (bJ tq p.1 0).1 p.2 u 0↔M tp u:=fun u=>by
  have:=tO (t:=tp) okp (S:=[⟨[],0,[]⟩]) (to:=0) (F:=(bJ tq p.1 0).1) (fun k _ h2=>by rw [hp] at h2 ⊢;exact x2.2 k h2) z0 (by simp) u
  rw [hp] at this
  exact this
 have hQ:∀ u,jD (bJ tq p.1 0).1 (bJ tq p.1 0).2 u 0↔M tq u:=fun u=>tO (t:=tq) okq (S:=p.1) (to:=0) (fun k _ _=>rfl) z0 (by omega) u
 constructor
 ·intro h
  obtain ⟨q1,q2⟩:=(KH h rfl rfl rfl).1 rfl
  exact ⟨(hP _).1 q1,(hQ _).1 q2⟩
 ·rintro ⟨q1,q2⟩
  exact aBZ ((hP _).2 q1) ((hQ _).2 q2)
def aBO (t:PT) (s:List UInt8):Prop:=∃ l l':List (List UInt8),l≠l'/\(∀ x,x∈l->M t x)/\(∀ x,x∈l'->M t x)/\l.flatten=s/\l'.flatten=s
theorem MS.of_list {t:PT}:∀ (l:List (List UInt8)),(∀ x,x∈l->M t x)->MS t l.flatten
 | [],_=>MS.nil
 | x::l,h=>by
  rw [List.flatten_cons]
  exact MS.cons (h x (List.mem_cons_self ..)) (MS.of_list l (fun y hy=>h y (List.mem_cons_of_mem _ hy)))
theorem M.star_iff {t:PT} {s:List UInt8}:M (.rep 42 t) s↔MS t s:=by
 constructor
 ·intro h
  cases h with
  | star h=>exact h
 ·exact M.star
theorem FO {α:Type}:∀ (x y r r':List α),x++r=y++r'->x.length<=y.length->∃ u,y=x++u/\r=u++r'
 | [],y,r,r',h,_=>⟨y,rfl,h⟩
 | a::x,[],r,r',h,hl=>by simp at hl
 | a::x,b::y,r,r',h,hl=>by
  simp only [List.cons_append,List.cons.injEq] at h
  obtain ⟨rfl,h⟩:=h
  obtain ⟨u,rfl,rfl⟩:=FO x y r r' h (by simpa using hl)
  exact ⟨u,rfl,rfl⟩
theorem oR {t:PT} (h0:¬ M t []):∀ (l l':List (List UInt8)),l≠l'->(∀ x,x∈l->M t x)->(∀ x,x∈l'->M t x)->l.flatten=l'.flatten->∃ s,iT t (.rep 42 t) s
 | [],[],hn,_,_,_=>absurd rfl hn
 | [],y::r',_,_,h',hf=>by
  rw [List.flatten_nil,List.flatten_cons] at hf
  have:y=[]:=(List.append_eq_nil_iff.1 hf.symm).1
  exact absurd (this▸h' y (List.mem_cons_self ..)) h0
 | x::r,[],_,h,_,hf=>by
  rw [List.flatten_nil,List.flatten_cons] at hf
  have:x=[]:=(List.append_eq_nil_iff.1 hf).1
  exact absurd (this▸h x (List.mem_cons_self ..)) h0
 | x::r,y::r',hn,h,h',hf=>by
  have hx:=h x (List.mem_cons_self ..)
  have hy:=h' y (List.mem_cons_self ..)
  have hr:=fun z hz=>h z (List.mem_cons_of_mem _ hz)
  have PK:=fun z hz=>h' z (List.mem_cons_of_mem _ hz)
  rw [List.flatten_cons,List.flatten_cons] at hf
  by_cases e:x=y
  ·subst e
   exact oR h0 r r' (fun e=>hn (by rw [e])) hr PK (List.append_cancel_left hf)
  ·rcases Nat.le_total x.length y.length with hle | hle
   ·obtain ⟨u,rfl,hu⟩:=FO x y _ _ hf hle
    refine ⟨x++(u++r'.flatten),x,u,r'.flatten,rfl,fun e'=>e (by simp [e']),hx,?_,hy,M.star (MS.of_list r' PK)⟩
    rw [← hu]
    exact M.star (MS.of_list r hr)
   ·obtain ⟨u,rfl,hu⟩:=FO y x _ _ hf.symm hle
    refine ⟨y++(u++r.flatten),y,u,r.flatten,rfl,fun e'=>e (by simp [e']),hy,?_,hx,M.star (MS.of_list r hr)⟩
    rw [← hu]
    exact M.star (MS.of_list r' PK)
theorem iM (d:List UInt8) (j:Nat):fP d 0 j=d.take j:=by simp [fP]
theorem jJ (d:List UInt8) (i:Nat):fP d i d.length=d.drop i:=by
 unfold fP
 rw [List.take_of_length_le (by rw [List.length_drop];exact Nat.le_refl _)]
theorem YG {ta tb:PT} {d:List UInt8}:iT ta tb d↔∃ i j,i<j/\j<=d.length/\M ta (fP d 0 i)/\M tb (fP d i d.length)/\M ta (fP d 0 j)/\M tb (fP d j d.length):=by
 constructor
 ·rintro ⟨w,u1,u2,rfl,hu,h1,h2,h3,h4⟩
  have hl:0<u1.length:=List.length_pos_iff.2 hu
  have e1:(w++(u1++u2)).take w.length=w:=by simp
  have e2:(w++(u1++u2)).drop w.length=u1++u2:=by simp
  have e3:(w++(u1++u2)).take (w++u1).length=w++u1:=by rw [← List.append_assoc];exact List.take_left ..
  have e4:(w++(u1++u2)).drop (w++u1).length=u2:=by rw [← List.append_assoc];exact List.drop_left ..
  refine ⟨w.length,(w++u1).length,by simp;omega,by simp,?_,?_,?_,?_⟩
  ·rw [iM,e1];exact h1
  ·rw [jJ,e2];exact h2
  ·rw [iM,e3];exact h3
  ·rw [jJ,e4];exact h4
 ·rintro ⟨i,j,kD,hj,h1,h2,h3,h4⟩
  have a1:=jK d 0 i d.length (Nat.zero_le _) (by omega)
  have a2:=jK d i j d.length (by omega) hj
  have a3:=jK d 0 i j (Nat.zero_le _) (by omega)
  refine ⟨fP d 0 i,fP d i j,fP d j d.length,?_,fun e=>?_,h1,by rw [a2];exact h2,by rw [a3];exact h3,h4⟩
  ·rw [a2,a1,o7]
  ·have:=fJ d i j hj
   rw [e] at this
   simp at this
   omega
section
variable {t:PT} {d:List UInt8} {E:Nat->Nat->Bool}
def ZN (d:List UInt8):Nat->List Nat->List (List UInt8)
 | _,[]=>[]
 | j,i::l=>ZN d i l++[fP d i j]
theorem FM (hE:∀ i j,i<j->j<=d.length->(E i j=true↔M t (fP d i j))):∀ (l:List Nat) (j:Nat),j<=d.length->Pt E j l->(∀ x,x∈ZN d j l->M t x)/\(ZN d j l).flatten=fP d 0 j
 | [],j,hj,h=>by
  have:j=0:=h
  subst this
  rw [ZN]
  exact ⟨fun x hx=>(by cases hx),by rw [sub_self];rfl⟩
 | i::l,j,hj,h=>by
  obtain ⟨h1,h2,h3⟩:=h
  obtain ⟨q1,q2⟩:=FM hE l i (by omega) h3
  rw [ZN]
  refine ⟨fun x hx=>?_,?_⟩
  ·rcases List.mem_append.1 hx with hx | hx
   ·exact q1 x hx
   ·rw [List.mem_singleton] at hx
    subst hx
    exact (hE i j h1 hj).1 h2
  ·rw [List.flatten_append,q2,List.flatten_cons,List.flatten_nil,List.append_nil]
   exact jK d 0 i j (Nat.zero_le _) (by omega)
theorem KL:∀ (l l':List Nat) (j:Nat),j<=d.length->Pt E j l->Pt E j l'->ZN d j l=ZN d j l'->l=l'
 | [],[],_,_,_,_,_=>rfl
 | [],i::l',j,_,h,h',_=>by
  have:j=0:=h
  have:=h'.1
  omega
 | i::l,[],j,_,h,h',_=>by
  have:j=0:=h'
  have:=h.1
  omega
 | i::l,i'::l',j,hj,h,h',e=>by
  rw [ZN,ZN] at e
  obtain ⟨e1,e2⟩:=List.append_inj' e rfl
  injection e2 with e2 _
  have n1:=fJ d i j hj
  have n2:=fJ d i' j hj
  rw [e2] at n1
  have hi:=h.1
  have hi':=h'.1
  have:i=i':=by omega
  subst this
  rw [KL l l' i (by omega) h.2.2 h'.2.2 e1]
theorem FF (hE:∀ i j,i<j->j<=d.length->(E i j=true↔M t (fP d i j))) (h:∃ l l',l≠l'/\Pt E d.length l/\Pt E d.length l'):aBO t d:=by
 obtain ⟨l,l',hn,h1,h2⟩:=h
 obtain ⟨a1,a2⟩:=FM hE l _ (Nat.le_refl _) h1
 obtain ⟨b1,b2⟩:=FM hE l' _ (Nat.le_refl _) h2
 rw [o7] at a2 b2
 exact ⟨_,_,fun e=>hn (KL l l' _ (Nat.le_refl _) h1 h2 e),a1,b1,a2,b2⟩
end
def f8 (t:PT) (d:List UInt8):Prop:=∃ E,aDI t d E/\∃ l l',l≠l'/\Pt E d.length l/\Pt E d.length l'
def n7:BT->List UInt8->Prop
 | .two kd _ a b,u=>if kd=124 then M (bS a) u/\M (bS b) u else iT (bS a) (bS b) u\/(if kd=126 then iT (bV b) (bV a) u else iT (bV a) (bV b) u)
 | .star _ a,u=>if u=[] then M (bS a) []\/M (bV a) [] else f8 (bS a) u\/f8 (bV a) u
 | .pat _,_=>False
 | .key _ _ _,_=>False
open Classical in
noncomputable def RP (A B:PT) (u:List UInt8) (i:Nat):Bool:=decide (M A (fP u 0 i)/\M B (fP u i u.length))
theorem A8 (A B:PT) (u:List UInt8):JF A B u (RP A B u):=fun i=>by simp [RP]
noncomputable def IT (A B:PT) (u:List UInt8):Int:=gT (RP A B u) (u.length+1)
noncomputable def aH (A B:PT) (u:List UInt8):Nat:=(IT A B u).toNat
theorem vY (q:Nat->Bool):∀ m,gT q m<0↔∀ i,i<m->q i=false
 | 0=>by rw [gT];simp
 | m+1=>by
  have ih:=vY q m
  have hb:=sW q m
  rw [gT]
  split
  ·rename_i h
   exact ⟨fun h1=>by omega,fun h1=>by have:=h1 m (by omega);rw [this] at h;cases h.1⟩
  ·rename_i h
   rw [ih]
   constructor
   ·intro h1 i hi
    by_cases e:i=m
    ·subst e
     cases hq:q i with
     | false=>rfl
     | true=>exact absurd ⟨hq,(ih.2 h1)⟩ h
    ·exact h1 i (by omega)
   ·intro h1 i hi
    exact h1 i (by omega)
theorem I1 (q:Nat->Bool):∀ m,0<=gT q m->q (gT q m).toNat=true/\(gT q m).toNat<m/\∀ j,j<(gT q m).toNat->q j=false
 | 0,h=>by rw [gT] at h;omega
 | m+1,h=>by
  have hb:=sW q m
  rw [gT] at h ⊢
  split
  ·rename_i h1
   have h2:=(vY q m).1 h1.2
   exact ⟨by simpa using h1.1,by simp,fun j hj=>h2 j (by simpa using hj)⟩
  ·rename_i h1
   rw [if_neg h1] at h
   obtain ⟨a,b,c⟩:=I1 q m h
   exact ⟨a,by omega,c⟩
theorem bQ {A B:PT} {u:List UInt8} (h:∃ i,i<=u.length/\M A (u.take i)/\M B (u.drop i)):
  IT A B u=(aH A B u:Int)/\aH A B u<=u.length/\M A (u.take (aH A B u))/\M B (u.drop (aH A B u))/\∀ j,j<aH A B u->¬ (M A (u.take j)/\M B (u.drop j)):=by
 have hq:=A8 A B u
 have key:∀ i,RP A B u i=true↔M A (u.take i)/\M B (u.drop i):=fun i=>by rw [hq i,iM,jJ]
 have h0:0<=IT A B u:=by
  have hb:=sW (RP A B u) (u.length+1)
  rcases Int.lt_or_le (IT A B u) 0 with h1 | h1
  ·obtain ⟨i,hi,h2⟩:=h
   have:=(vY _ _).1 h1 i (by omega)
   rw [(key i).2 h2] at this
   cases this
  ·exact h1
 obtain ⟨a,b,c⟩:=I1 (RP A B u) (u.length+1) h0
 have e:IT A B u=(aH A B u:Int):=by unfold aH;omega
 refine ⟨e,?_,((key _).1 a).1,((key _).1 a).2,fun j hj hn=>?_⟩
 ·have:aH A B u<u.length+1:=b
  omega
 ·have:=c j hj
  rw [(key j).2 hn] at this
  cases this
theorem MA {A B:PT} {u:List UInt8} (h:M (.seq [A,B]) u):∃ i,i<=u.length/\M A (u.take i)/\M B (u.drop i):=by
 cases h with
 | seq h=>
  cases h with
  | cons h1 h2=>
   cases h2 with
   | cons h3 h4=>
    cases h4
    rename_i x y
    refine ⟨x.length,by simp,by simpa using h1,by simpa using h3⟩
theorem aG0 {A B:PT} {u:List UInt8} {i:Nat} (h1:M A (u.take i)) (h2:M B (u.drop i)):M (.seq [A,B]) u:=by
 have:=M.seq (ML.cons h1 (ML.cons h2 ML.nil))
 rwa [List.append_nil,List.take_append_drop] at this
noncomputable def U8 (A:PT):Nat->List UInt8->List (List UInt8)
 | 0,_=>[]
 | n+1,u=>if u=[] then [] else u.take (aH A (.rep 42 A) u)::U8 A n (u.drop (aH A (.rep 42 A) u))
noncomputable def dV (A:PT) (u:List UInt8):List (List UInt8):=U8 A u.length u
theorem mX {A:PT} {u:List UInt8} (hu:u≠[]) (h:M (.rep 42 A) u):∃ i,i<=u.length/\M A (u.take i)/\M (.rep 42 A) (u.drop i):=by
 rw [M.star_iff] at h
 cases h with
 | nil=>exact absurd rfl hu
 | cons h1 h2=>
  rename_i x y
  exact ⟨x.length,by simp,by simpa using h1,by simpa using M.star h2⟩
theorem pF {A:PT} {u:List UInt8} (h0:¬ M A []) (hu:u≠[]) (h:M (.rep 42 A) u):0<aH A (.rep 42 A) u:=by
 obtain ⟨_,_,h1,_⟩:=bQ (mX hu h)
 rcases Nat.eq_zero_or_pos (aH A (.rep 42 A) u) with e | e
 ·rw [e] at h1
  exact absurd (by simpa using h1) h0
 ·exact e
theorem BU {A:PT} (h0:¬ M A []):∀ (n:Nat) (u:List UInt8),u.length<=n->M (.rep 42 A) u->(∀ x,x∈U8 A n u->M A x/\x≠[])/\(U8 A n u).flatten=u
 | 0,u,hn,h=>by
  have:u=[]:=List.eq_nil_of_length_eq_zero (by omega)
  subst this
  rw [U8]
  exact ⟨fun x hx=>(by cases hx),rfl⟩
 | n+1,u,hn,h=>by
  rw [U8]
  by_cases hu:u=[]
  ·rw [if_pos hu,hu]
   exact ⟨fun x hx=>(by cases hx),rfl⟩
  ·rw [if_neg hu]
   obtain ⟨_,hl,h1,h2,_⟩:=bQ (mX hu h)
   have hp:=pF h0 hu h
   obtain ⟨a,b⟩:=BU h0 n (u.drop (aH A (.rep 42 A) u)) (by rw [List.length_drop];omega) h2
   refine ⟨fun x hx=>?_,?_⟩
   ·rcases List.mem_cons.1 hx with rfl | hx
    ·exact ⟨h1,fun e=>h0 (by rw [e] at h1;exact h1)⟩
    ·exact a x hx
   ·rw [List.flatten_cons,b,List.take_append_drop]
theorem lH {A:PT} (h0:¬ M A []) {u:List UInt8} (h:M (.rep 42 A) u):(∀ x,x∈dV A u->M A x/\x≠[])/\(dV A u).flatten=u:=BU h0 _ u (Nat.le_refl _) h
theorem BS {A:PT} (h0:¬ M A []):∀ (n m:Nat) (u:List UInt8),u.length<=n->u.length<=m->M (.rep 42 A) u->U8 A n u=U8 A m u
 | 0,0,u,_,_,_=>rfl
 | 0,m+1,u,h,_,_=>by
  have:u=[]:=List.eq_nil_of_length_eq_zero (by omega)
  rw [U8,U8,if_pos this]
 | n+1,0,u,_,h,_=>by
  have:u=[]:=List.eq_nil_of_length_eq_zero (by omega)
  rw [U8,U8,if_pos this]
 | n+1,m+1,u,h1,h2,h=>by
  rw [U8,U8]
  by_cases hu:u=[]
  ·rw [if_pos hu,if_pos hu]
  ·rw [if_neg hu,if_neg hu]
   obtain ⟨_,hl,_,h3,_⟩:=bQ (mX hu h)
   have hp:=pF h0 hu h
   rw [BS h0 n m _ (by rw [List.length_drop];omega) (by rw [List.length_drop];omega) h3]
theorem KM (A:PT):dV A []=[]:=by rw [dV];rfl
theorem BV {A:PT} (h0:¬ M A []) {u:List UInt8} (hu:u≠[]) (h:M (.rep 42 A) u):dV A u=u.take (aH A (.rep 42 A) u)::dV A (u.drop (aH A (.rep 42 A) u)):=by
 obtain ⟨_,hl,_,h3,_⟩:=bQ (mX hu h)
 have hp:=pF h0 hu h
 obtain ⟨n,hn⟩:∃ n,u.length=n+1:=⟨u.length-1,by have:=List.length_pos_iff.2 hu;omega⟩
 rw [dV,hn,U8,if_neg hu,dV]
 rw [BS h0 n _ _ (by rw [List.length_drop];omega) (Nat.le_refl _) h3]
open Classical in
noncomputable def dA:BT->List UInt8->List UInt8
 | .pat _,u=>u
 | .key _ v _,_=>v
 | .two kd _ a b,u=>
  if kd=124 then (if M (bS a) u then dA a u else dA b u)
  else if kd=126 then dA b (u.drop (aH (bS a) (bS b) u))++dA a (u.take (aH (bS a) (bS b) u))
  else dA a (u.take (aH (bS a) (bS b) u))++dA b (u.drop (aH (bS a) (bS b) u))
 | .star _ a,u=>(dV (bS a) u).flatMap (dA a)
open Classical in
noncomputable def bA:BT->List UInt8->List UInt8
 | .pat _,v=>v
 | .key _ _ d,_=>d
 | .two kd _ a b,v=>
  if kd=124 then (if M (bV a) v then bA a v else bA b v)
  else if kd=126 then bA a (v.drop (aH (bV b) (bV a) v))++bA b (v.take (aH (bV b) (bV a) v))
  else bA a (v.take (aH (bV a) (bV b) v))++bA b (v.drop (aH (bV a) (bV b) v))
 | .star _ a,v=>(dV (bV a) v).flatMap (bA a)
def bT (f:List UInt8->List UInt8->List UInt8) (g:List UInt8->List UInt8):List (List UInt8)->List (List UInt8)->List UInt8
 | [],_=>[]
 | p::ps,[]=>g p++bT f g ps []
 | p::ps,q::qs=>f p q++bT f g ps qs
open Classical in
noncomputable def cB:BT->List UInt8->List UInt8->List UInt8
 | .pat _,v,_=>v
 | .key _ _ _,_,s=>s
 | .two kd p a b,v,s=>
  if kd=124 then
   (if M (bS a) s then (if M (bV a) v then cB a v s else bA (.two kd p a b) v)
   else (if M (bV b) v then cB b v s else bA (.two kd p a b) v))
  else if kd=126 then cB a (v.drop (aH (bV b) (bV a) v)) (s.take (aH (bS a) (bS b) s))++cB b (v.take (aH (bV b) (bV a) v)) (s.drop (aH (bS a) (bS b) s))
  else cB a (v.take (aH (bV a) (bV b) v)) (s.take (aH (bS a) (bS b) s))++cB b (v.drop (aH (bV a) (bV b) v)) (s.drop (aH (bS a) (bS b) s))
 | .star _ a,v,s=>bT (cB a) (bA a) (dV (bV a) v) (dV (bS a) s)
def pQ:BT->Prop
 | .pat _=>True
 | .key _ v d=>v.length<=120/\d.length<=120
 | .two kd _ a b=>(kd=114\/kd=124\/kd=126)/\pQ a/\pQ b
 | .star _ a=>¬ M (bS a) []/\¬ M (bV a) []/\pQ a
def fH:BT->Nat
 | .pat _=>1
 | .key _ _ _=>1
 | .two _ _ a b=>fH a+fH b+1
 | .star _ a=>fH a+1
theorem wS {kd:Int} {p:Nat} {a b:BT} {u:List UInt8} (hk:kd≠124) (h:M (bS (.two kd p a b)) u):∃ i,i<=u.length/\M (bS a) (u.take i)/\M (bS b) (u.drop i):=by
 rw [bS,if_neg hk] at h
 exact MA h
theorem T6 {kd:Int} {p:Nat} {a b:BT} {u:List UInt8} (hk:kd≠124) (hk2:kd≠126) (h:M (bV (.two kd p a b)) u):∃ i,i<=u.length/\M (bV a) (u.take i)/\M (bV b) (u.drop i):=by
 rw [bV,if_neg hk,if_neg hk2] at h
 exact MA h
theorem n9 {p:Nat} {a b:BT} {u:List UInt8} (h:M (bV (.two 126 p a b)) u):∃ i,i<=u.length/\M (bV b) (u.take i)/\M (bV a) (u.drop i):=by
 rw [bV,if_neg (by decide),if_pos rfl] at h
 exact MA h
theorem EB {a b:PT} {u:List UInt8} (h:M (.alt [a,b]) u):M a u\/M b u:=by
 cases h with
 | alt h1 h2=>
  rcases List.mem_cons.1 h1 with rfl | h1
  ·exact .inl h2
  ·rw [List.mem_singleton] at h1
   subst h1
   exact .inr h2
theorem o8 {p:Nat} {a b:BT} {u:List UInt8} (h:M (bS (.two 124 p a b)) u):M (bS a) u\/M (bS b) u:=by
 rw [bS,if_pos rfl] at h
 exact EB h
theorem QH {p:Nat} {a b:BT} {u:List UInt8} (h:M (bV (.two 124 p a b)) u):M (bV a) u\/M (bV b) u:=by
 rw [bV,if_pos rfl] at h
 exact EB h
def bd (c:BT) (n:Nat):Nat:=120*fH c*max 1 n
theorem bd_two (kd:Int) (p:Nat) (a b:BT) (n i j:Nat) (hi:i<=n) (hj:j<=n):bd a i+bd b j<=bd (.two kd p a b) n:=by
 unfold bd
 rw [fH]
 have h1:120*fH a*max 1 i<=120*fH a*max 1 n:=Nat.mul_le_mul_left _ (by omega)
 have h2:120*fH b*max 1 j<=120*fH b*max 1 n:=Nat.mul_le_mul_left _ (by omega)
 have h3:120*(fH a+fH b+1)*max 1 n=120*fH a*max 1 n+120*fH b*max 1 n+120*max 1 n:=by
  rw [Nat.mul_add,Nat.mul_add,Nat.add_mul,Nat.add_mul,Nat.mul_one]
 omega
theorem VN (t:PT) (v d:List UInt8) (n:Nat):120<=bd (.key t v d) n:=by
 unfold bd
 rw [fH]
 omega
theorem Z5 (p:Nat) (a:BT) (n:Nat):120*fH a*n<=bd (.star p a) n:=by
 unfold bd
 rw [fH]
 exact Nat.mul_le_mul (by omega) (by omega)
theorem I5 {K:Nat} {f:List UInt8->List UInt8}:∀ (l:List (List UInt8)),(∀ x,x∈l->(f x).length<=x.length+K*x.length)->(l.flatMap f).length<=l.flatten.length+K*l.flatten.length
 | [],_=>by simp
 | x::l,h=>by
  have h1:=h x List.mem_cons_self
  have h2:=I5 l (fun y hy=>h y (List.mem_cons_of_mem _ hy))
  rw [List.flatMap_cons,List.flatten_cons,List.length_append,List.length_append,Nat.mul_add]
  omega
theorem ZT {x:List UInt8} (h:x≠[]):max 1 x.length=x.length:=by
 have:=List.length_pos_iff.2 h
 omega
theorem tT:∀ (c:BT),pQ c->∀ u,M (bS c) u->(dA c u).length<=u.length+bd c u.length
 | .pat t,_,u,_=>by rw [dA];omega
 | .key t v d,h,u,_=>by
  rw [dA]
  have:=VN t v d u.length
  have:=h.1
  omega
 | .two kd p a b,h,u,hu=>by
  have ia:=tT a h.2.1
  have ib:=tT b h.2.2
  by_cases hk:kd=124
  ·subst hk
   rw [dA,if_pos rfl]
   have hb:=bd_two 124 p a b u.length u.length u.length (Nat.le_refl _) (Nat.le_refl _)
   split
   ·rename_i h1;have:=ia u h1;omega
   ·rename_i h1;have:=ib u ((o8 hu).resolve_left h1);omega
  ·obtain ⟨_,hl,h1,h2,_⟩:=bQ (wS hk hu)
   have e1:=ia _ h1
   have e2:=ib _ h2
   have l1:(u.take (aH (bS a) (bS b) u)).length=aH (bS a) (bS b) u:=by rw [List.length_take];omega
   have l2:(u.drop (aH (bS a) (bS b) u)).length=u.length-aH (bS a) (bS b) u:=by rw [List.length_drop]
   rw [l1] at e1
   rw [l2] at e2
   have hb:=bd_two kd p a b u.length (aH (bS a) (bS b) u) (u.length-aH (bS a) (bS b) u) hl (by omega)
   rw [dA,if_neg hk]
   split
   ·rw [List.length_append];omega
   ·rw [List.length_append];omega
 | .star p a,h,u,hu=>by
  have ia:=tT a h.2.2
  obtain ⟨h1,h2⟩:=lH h.1 (u:=u) hu
  rw [dA]
  have:=I5 (K:=120*fH a) (f:=dA a) (dV (bS a) u) (fun x hx=>by
   have:=ia x (h1 x hx).1
   rw [bd,ZT (h1 x hx).2] at this
   exact this)
  rw [h2] at this
  have hb:=Z5 p a u.length
  omega
theorem jN:∀ (c:BT),pQ c->∀ u,M (bV c) u->(bA c u).length<=u.length+bd c u.length
 | .pat t,_,u,_=>by rw [bA];omega
 | .key t v d,h,u,_=>by
  rw [bA]
  have:=VN t v d u.length
  have:=h.2
  omega
 | .two kd p a b,h,u,hu=>by
  have ia:=jN a h.2.1
  have ib:=jN b h.2.2
  by_cases hk:kd=124
  ·subst hk
   rw [bA,if_pos rfl]
   have hb:=bd_two 124 p a b u.length u.length u.length (Nat.le_refl _) (Nat.le_refl _)
   split
   ·rename_i h1;have:=ia u h1;omega
   ·rename_i h1;have:=ib u ((QH hu).resolve_left h1);omega
  ·rw [bA,if_neg hk]
   by_cases hk2:kd=126
   ·subst hk2
    rw [if_pos rfl]
    obtain ⟨_,hl,h1,h2,_⟩:=bQ (n9 hu)
    have e1:=ib _ h1
    have e2:=ia _ h2
    have l1:(u.take (aH (bV b) (bV a) u)).length=aH (bV b) (bV a) u:=by rw [List.length_take];omega
    have l2:(u.drop (aH (bV b) (bV a) u)).length=u.length-aH (bV b) (bV a) u:=by rw [List.length_drop]
    rw [l1] at e1
    rw [l2] at e2
    have hb:=bd_two 126 p a b u.length (u.length-aH (bV b) (bV a) u) (aH (bV b) (bV a) u) (by omega) hl
    rw [List.length_append];omega
   ·rw [if_neg hk2]
    obtain ⟨_,hl,h1,h2,_⟩:=bQ (T6 hk hk2 hu)
    have e1:=ia _ h1
    have e2:=ib _ h2
    have l1:(u.take (aH (bV a) (bV b) u)).length=aH (bV a) (bV b) u:=by rw [List.length_take];omega
    have l2:(u.drop (aH (bV a) (bV b) u)).length=u.length-aH (bV a) (bV b) u:=by rw [List.length_drop]
    rw [l1] at e1
    rw [l2] at e2
    have hb:=bd_two kd p a b u.length (aH (bV a) (bV b) u) (u.length-aH (bV a) (bV b) u) hl (by omega)
    rw [List.length_append];omega
 | .star p a,h,u,hu=>by
  have ia:=jN a h.2.2
  obtain ⟨h1,h2⟩:=lH h.2.1 (u:=u) hu
  rw [bA]
  have:=I5 (K:=120*fH a) (f:=bA a) (dV (bV a) u) (fun x hx=>by
   have:=ia x (h1 x hx).1
   rw [bd,ZT (h1 x hx).2] at this
   exact this)
  rw [h2] at this
  have hb:=Z5 p a u.length
  omega
theorem vE {K:Nat} {f:List UInt8->List UInt8->List UInt8} {g:List UInt8->List UInt8}:∀ (l m:List (List UInt8)),(∀ x,x∈l->(g x).length<=x.length+K*x.length)->(∀ x,x∈l->∀ y,y∈m->(f x y).length<=x.length+y.length+K*x.length)->
  (bT f g l m).length<=l.flatten.length+m.flatten.length+K*l.flatten.length
 | [],m,_,_=>by rw [bT];simp
 | x::l,[],hg,hf=>by
  have h1:=hg x List.mem_cons_self
  have h2:=vE (f:=f) l [] (fun y hy=>hg y (List.mem_cons_of_mem _ hy)) (fun y hy z hz=>by cases hz)
  rw [bT,List.flatten_cons,List.length_append,List.length_append,Nat.mul_add]
  simp only [List.flatten_nil,List.length_nil] at h2 ⊢
  omega
 | x::l,y::m,hg,hf=>by
  have h1:=hf x List.mem_cons_self y List.mem_cons_self
  have h2:=vE l m (fun y hy=>hg y (List.mem_cons_of_mem _ hy)) (fun u hu z hz=>hf u (List.mem_cons_of_mem _ hu) z (List.mem_cons_of_mem _ hz))
  rw [bT,List.flatten_cons,List.flatten_cons,List.length_append,List.length_append,List.length_append,Nat.mul_add]
  omega
theorem qA:∀ (c:BT),pQ c->∀ v s,M (bV c) v->M (bS c) s->(cB c v s).length<=v.length+s.length+bd c v.length
 | .pat t,_,v,s,_,_=>by rw [cB];omega
 | .key t x d,h,v,s,_,_=>by rw [cB];omega
 | .two kd p a b,h,v,s,hv,hs=>by
  have ia:=qA a h.2.1
  have ib:=qA b h.2.2
  by_cases hk:kd=124
  ·subst hk
   have hb:=bd_two 124 p a b v.length v.length v.length (Nat.le_refl _) (Nat.le_refl _)
   have hm:=jN _ h v hv
   rw [cB,if_pos rfl]
   split
   ·rename_i h1
    split
    ·rename_i h2;have:=ia v s h2 h1;omega
    ·omega
   ·rename_i h1
    split
    ·rename_i h2;have:=ib v s h2 ((o8 hs).resolve_left h1);omega
    ·omega
  ·obtain ⟨_,fU,s1,s2,_⟩:=bQ (wS hk hs)
   have ls1:(s.take (aH (bS a) (bS b) s)).length=aH (bS a) (bS b) s:=by rw [List.length_take];omega
   have ls2:(s.drop (aH (bS a) (bS b) s)).length=s.length-aH (bS a) (bS b) s:=by rw [List.length_drop]
   rw [cB,if_neg hk]
   by_cases hk2:kd=126
   ·subst hk2
    rw [if_pos rfl]
    obtain ⟨_,hl,h1,h2,_⟩:=bQ (n9 hv)
    have e1:=ib _ _ h1 s2
    have e2:=ia _ _ h2 s1
    have l1:(v.take (aH (bV b) (bV a) v)).length=aH (bV b) (bV a) v:=by rw [List.length_take];omega
    have l2:(v.drop (aH (bV b) (bV a) v)).length=v.length-aH (bV b) (bV a) v:=by rw [List.length_drop]
    rw [l1,ls2] at e1
    rw [l2,ls1] at e2
    have hb:=bd_two 126 p a b v.length (v.length-aH (bV b) (bV a) v) (aH (bV b) (bV a) v) (by omega) hl
    rw [List.length_append];omega
   ·rw [if_neg hk2]
    obtain ⟨_,hl,h1,h2,_⟩:=bQ (T6 hk hk2 hv)
    have e1:=ia _ _ h1 s1
    have e2:=ib _ _ h2 s2
    have l1:(v.take (aH (bV a) (bV b) v)).length=aH (bV a) (bV b) v:=by rw [List.length_take];omega
    have l2:(v.drop (aH (bV a) (bV b) v)).length=v.length-aH (bV a) (bV b) v:=by rw [List.length_drop]
    rw [l1,ls1] at e1
    rw [l2,ls2] at e2
    have hb:=bd_two kd p a b v.length (aH (bV a) (bV b) v) (v.length-aH (bV a) (bV b) v) hl (by omega)
    rw [List.length_append];omega
 | .star p a,h,v,s,hv,hs=>by
  have ia:=qA a h.2.2
  have im:=jN a h.2.2
  obtain ⟨h1,h2⟩:=lH h.2.1 (u:=v) hv
  obtain ⟨h3,h4⟩:=lH h.1 (u:=s) hs
  rw [cB]
  have:=vE (K:=120*fH a) (f:=cB a) (g:=bA a) (dV (bV a) v) (dV (bS a) s) (fun x hx=>by
   have:=im x (h1 x hx).1
   rw [bd,ZT (h1 x hx).2] at this
   exact this) (fun x hx y hy=>by
   have:=ia x y (h1 x hx).1 (h3 y hy).1
   rw [bd,ZT (h1 x hx).2] at this
   exact this)
  rw [h2,h4] at this
  have hb:=Z5 p a v.length
  omega
theorem e9 {c:BT} {n:Nat} (hc:fH c<=800) (hn:n<=1000):bd c n<=96000000:=by
 unfold bd
 have:120*fH c*max 1 n<=96000*1000:=Nat.mul_le_mul (by omega) (by omega)
 omega
end Go.Proofs.YtlljggefbngkeaaGreatDoor
