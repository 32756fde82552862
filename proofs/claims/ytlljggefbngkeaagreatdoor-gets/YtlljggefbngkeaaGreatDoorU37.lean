import Derived.Test.YtlljggefbngkeaaGreatDoorU36
import Derived.Test.YtlljggefbngkeaaGreatDoorU16
import Derived.Test.YtlljggefbngkeaaGreatDoorU14
namespace Go.Proofs.YtlljggefbngkeaaGreatDoor
open Go.RowKit
theorem nS {A B A' B':PT} (hA:∀ u,M A u↔M A' u) (hB:∀ u,M B u↔M B' u) (u:List UInt8):aH A B u=aH A' B' u:=by
 have:RP A B u=RP A' B' u:=funext fun i=>by
  unfold RP
  rw [decide_eq_decide,hA,hB]
 unfold aH IT
 rw [this]
theorem O9 {A A':PT} (hA:∀ u,M A u↔M A' u) (u:List UInt8):dV A u=dV A' u:=by
 have:∀ n u,U8 A n u=U8 A' n u:=fun n=>by
  induction n with
  | zero=>intro u;rfl
  | succ n ih=>intro u;rw [U8,U8,nS hA (p6 hA),ih]
 rw [dV,dV,this]
section
variable {p:Nat} {a b:BT}
theorem jS {u:List UInt8}:M (bS (.two 124 p a b)) u↔M (bS a) u\/M (bS b) u:=by
 rw [bS,if_pos rfl];exact JI
theorem lR {u:List UInt8}:M (bV (.two 124 p a b)) u↔M (bV a) u\/M (bV b) u:=by
 rw [bV,if_pos rfl];exact JI
end
def wC (f:BT->PT) (l:List LT) (i:Nat) (t:LT) (u:List UInt8):Prop:=l[i]? = some t/\M (f (bP t)) u/\∀ (j:Nat) (t':LT),j<i->l[j]? = some t'->¬ M (f (bP t')) u
theorem wC.zero {f:BT->PT} {x t:LT} {l:List LT} {u:List UInt8} (h:wC f (x::l) 0 t u):x=t/\M (f (bP x)) u:=by
 obtain ⟨h1,h2,_⟩:=h
 rw [List.getElem?_cons_zero] at h1
 obtain rfl:=Option.some.inj h1
 exact ⟨rfl,h2⟩
theorem wC.succ {f:BT->PT} {x t:LT} {l:List LT} {i:Nat} {u:List UInt8} (h:wC f (x::l) (i+1) t u):¬ M (f (bP x)) u/\wC f l i t u:=by
 obtain ⟨h1,h2,h3⟩:=h
 refine ⟨h3 0 x (by omega) rfl,by simpa using h1,h2,fun j t' hj ht=>h3 (j+1) t' (by omega) (by simpa using ht)⟩
section
variable (ps:List Nat)
theorem F5:∀ (l:List LT) (ps:List Nat) (c:BT) (u:List UInt8),M (bS c) u->dA (eH 124 c l ps) u=dA c u
 | [],ps,c,u,h=>by rw [eH]
 | x::l,ps,c,u,h=>by
  rw [eH,F5 l _ _ u (jS.2 (.inl h)),dA,if_pos rfl,if_pos h]
theorem DF:∀ (l:List LT) (ps:List Nat) (c:BT) (u:List UInt8) (i:Nat) (t:LT),¬ M (bS c) u->wC bS l i t u->dA (eH 124 c l ps) u=dA (bP t) u
 | [],ps,c,u,i,t,h,hf=>by have:=hf.1;simp at this
 | x::l,ps,c,u,0,t,h,hf=>by
  obtain ⟨rfl,h1⟩:=hf.zero
  rw [eH,F5 l _ _ u (jS.2 (.inr h1)),dA,if_pos rfl,if_neg h]
 | x::l,ps,c,u,i+1,t,h,hf=>by
  obtain ⟨h1,h2⟩:=hf.succ
  rw [eH]
  exact DF l _ _ u i t (fun e=>(jS.1 e).elim h h1) h2
theorem pI:∀ (l:List LT) (ps:List Nat) (c:BT) (u:List UInt8),M (bV c) u->bA (eH 124 c l ps) u=bA c u
 | [],ps,c,u,h=>by rw [eH]
 | x::l,ps,c,u,h=>by
  rw [eH,pI l _ _ u (lR.2 (.inl h)),bA,if_pos rfl,if_pos h]
theorem P8:∀ (l:List LT) (ps:List Nat) (c:BT) (u:List UInt8) (i:Nat) (t:LT),¬ M (bV c) u->wC bV l i t u->bA (eH 124 c l ps) u=bA (bP t) u
 | [],ps,c,u,i,t,h,hf=>by have:=hf.1;simp at this
 | x::l,ps,c,u,0,t,h,hf=>by
  obtain ⟨rfl,h1⟩:=hf.zero
  rw [eH,pI l _ _ u (lR.2 (.inr h1)),bA,if_pos rfl,if_neg h]
 | x::l,ps,c,u,i+1,t,h,hf=>by
  obtain ⟨h1,h2⟩:=hf.succ
  rw [eH]
  exact P8 l _ _ u i t (fun e=>(lR.1 e).elim h h1) h2
theorem KD:∀ (l:List LT) (ps:List Nat) (c:BT) (u:List UInt8),M (bV (eH 124 c l ps)) u↔M (bV c) u\/∃ t,t∈l/\M (bV (bP t)) u
 | [],ps,c,u=>by rw [eH];simp
 | x::l,ps,c,u=>by
  rw [eH,KD l,lR]
  simp only [List.mem_cons,exists_eq_or_imp]
  exact or_assoc
theorem sD:∀ (l:List LT) (ps:List Nat) (c:BT) (v s:List UInt8),M (bS c) s->M (bV c) v->cB (eH 124 c l ps) v s=cB c v s
 | [],ps,c,v,s,h,h'=>by rw [eH]
 | x::l,ps,c,v,s,h,h'=>by
  rw [eH,sD l _ _ v s (jS.2 (.inl h)) (lR.2 (.inl h')),cB,if_pos rfl,if_pos h,if_pos h']
theorem A6:∀ (l:List LT) (ps:List Nat) (c:BT) (v s:List UInt8),M (bS c) s->¬ M (bV c) v->M (bV (eH 124 c l ps)) v->cB (eH 124 c l ps) v s=bA (eH 124 c l ps) v
 | [],ps,c,v,s,h,h',hv=>by rw [eH] at hv;exact absurd hv h'
 | x::l,ps,c,v,s,h,h',hv=>by
  rw [eH] at hv ⊢
  rcases Classical.em (M (bV (bP x)) v) with hx | hx
  ·rw [sD l _ _ v s (jS.2 (.inl h)) (lR.2 (.inr hx)),pI l _ _ v (lR.2 (.inr hx)),cB,if_pos rfl,if_pos h,if_neg h']
  ·exact A6 l _ _ v s (jS.2 (.inl h)) (fun e=>(lR.1 e).elim h' hx) hv
theorem BO:∀ (l:List LT) (ps:List Nat) (c:BT) (v s:List UInt8) (i:Nat) (t:LT),¬ M (bS c) s->wC bS l i t s->M (bV (bP t)) v->cB (eH 124 c l ps) v s=cB (bP t) v s
 | [],ps,c,v,s,i,t,h,hf,hv=>by have:=hf.1;simp at this
 | x::l,ps,c,v,s,0,t,h,hf,hv=>by
  obtain ⟨rfl,h1⟩:=hf.zero
  rw [eH,sD l _ _ v s (jS.2 (.inr h1)) (lR.2 (.inr hv)),cB,if_pos rfl,if_neg h,if_pos hv]
 | x::l,ps,c,v,s,i+1,t,h,hf,hv=>by
  obtain ⟨h1,h2⟩:=hf.succ
  rw [eH]
  exact BO l _ _ v s i t (fun e=>(jS.1 e).elim h h1) h2 hv
theorem BN:∀ (l:List LT) (ps:List Nat) (c:BT) (v s:List UInt8) (i:Nat) (t:LT),¬ M (bS c) s->wC bS l i t s->¬ M (bV (bP t)) v->M (bV (eH 124 c l ps)) v->cB (eH 124 c l ps) v s=bA (eH 124 c l ps) v
 | [],ps,c,v,s,i,t,h,hf,hv,hw=>by have:=hf.1;simp at this
 | x::l,ps,c,v,s,0,t,h,hf,hv,hw=>by
  obtain ⟨rfl,h1⟩:=hf.zero
  rw [eH] at hw ⊢
  rcases Classical.em (M (bV c) v) with hc | hc
  ·rw [sD l _ _ v s (jS.2 (.inr h1)) (lR.2 (.inl hc)),pI l _ _ v (lR.2 (.inl hc)),cB,if_pos rfl,if_neg h,if_neg hv]
  ·exact A6 l _ _ v s (jS.2 (.inr h1)) (fun e=>(lR.1 e).elim hc hv) hw
 | x::l,ps,c,v,s,i+1,t,h,hf,hv,hw=>by
  obtain ⟨h1,h2⟩:=hf.succ
  rw [eH] at hw ⊢
  exact BN l _ _ v s i t (fun e=>(jS.1 e).elim h h1) h2 hv hw
end
theorem UW {l:List LT} {ps:List Nat} {i:Nat} {t:LT} {u:List UInt8} (h:wC bS l i t u):dA (cX 124 l ps) u=dA (bP t) u:=by
 match l,i,h with
 | [],i,h=>have:=h.1;simp at this
 | x::l,0,h=>obtain ⟨rfl,h1⟩:=h.zero;rw [cX];exact F5 l ps _ u h1
 | x::l,i+1,h=>obtain ⟨h1,h2⟩:=h.succ;rw [cX];exact DF l ps _ u i t h1 h2
theorem P7 {l:List LT} {ps:List Nat} {i:Nat} {t:LT} {u:List UInt8} (h:wC bV l i t u):bA (cX 124 l ps) u=bA (bP t) u:=by
 match l,i,h with
 | [],i,h=>have:=h.1;simp at this
 | x::l,0,h=>obtain ⟨rfl,h1⟩:=h.zero;rw [cX];exact pI l ps _ u h1
 | x::l,i+1,h=>obtain ⟨h1,h2⟩:=h.succ;rw [cX];exact P8 l ps _ u i t h1 h2
theorem JV {x:LT} {l:List LT} {ps:List Nat} {v:List UInt8}:M (bV (cX 124 (x::l) ps)) v↔∃ t,t∈x::l/\M (bV (bP t)) v:=by
 rw [cX,KD]
 simp only [List.mem_cons,exists_eq_or_imp]
theorem U4 {l:List LT} {ps:List Nat} {i:Nat} {t:LT} {v s:List UInt8} (h:wC bS l i t s) (hv:M (bV (bP t)) v):cB (cX 124 l ps) v s=cB (bP t) v s:=by
 match l,i,h with
 | [],i,h=>have:=h.1;simp at this
 | x::l,0,h=>obtain ⟨rfl,h1⟩:=h.zero;rw [cX];exact sD l ps _ v s h1 hv
 | x::l,i+1,h=>obtain ⟨h1,h2⟩:=h.succ;rw [cX];exact BO l ps _ v s i t h1 h2 hv
theorem U5 {l:List LT} {ps:List Nat} {i m:Nat} {t t':LT} {v s:List UInt8} (h:wC bS l i t s) (hv:¬ M (bV (bP t)) v) (hm:wC bV l m t' v):cB (cX 124 l ps) v s=bA (bP t') v:=by
 rw [← P7 (ps:=ps) hm]
 match l,i,h,hm with
 | [],i,h,_=>have:=h.1;simp at this
 | x::l,0,h,hm=>
  obtain ⟨rfl,h1⟩:=h.zero
  have hw:=JV (ps:=ps).2 ⟨t',List.mem_of_getElem? hm.1,hm.2.1⟩
  rw [cX] at hw ⊢;exact A6 l ps _ v s h1 hv hw
 | x::l,i+1,h,hm=>
  obtain ⟨h1,h2⟩:=h.succ
  have hw:=JV (ps:=ps).2 ⟨t',List.mem_of_getElem? hm.1,hm.2.1⟩
  rw [cX] at hw ⊢;exact BN l ps _ v s i t h1 h2 hv hw
theorem BA (s:ByteArray):s.data.toList.length=s.size:=by rw [Array.length_toList];rfl
def NoW (c:BT):Prop:=∀ c',c'∈eD c->∀ u,¬ n7 c' u
end Go.Proofs.YtlljggefbngkeaaGreatDoor
