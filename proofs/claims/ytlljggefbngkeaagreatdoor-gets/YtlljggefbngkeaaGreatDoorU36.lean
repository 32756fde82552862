import Derived.Test.YtlljggefbngkeaaGreatDoorU35
import Derived.Test.YtlljggefbngkeaaGreatDoorU23
import Derived.Test.YtlljggefbngkeaaGreatDoorU16
set_option maxRecDepth 100000
set_option maxHeartbeats 1600000
namespace Go.Proofs.YtlljggefbngkeaaGreatDoor
open Go.RowKit Go.Shelf
def pB (s:ByteArray) (c:Int) (p:Nat):Prop:=
 (120<s.size/\c=1/\p=0)\/(s.size<=120/\match aV s (6*s.size+5) 0 with
  | .err q=>c=2/\p=q
  | .ok x j=>(j<s.size/\c=2/\p=j)\/(j=s.size/\cC (dQ x.1) (some p)/\c=3))
def iL (s:ByteArray) (t:LT):Prop:=s.size<=120/\∃ x,aV s (6*s.size+5) 0 = .ok x s.size/\cC (dQ x.1) none/\t=joinAlt x.1 x.2
def GR2 (s:ByteArray) (w:World) (e:Ending) (w':World):Prop:=
 w.grownBy w' none/\((∃ c p,pB s c p/\(c=1\/c=2\/c=3)/\e = .returned (.tuple #[.pointer none,.int .i64 c,.int .i64 (p:Int)]))\/
  (∃ t g,iL s t/\LR s w' (fun k=>k<w.heap.size) t g/\e = .returned (.tuple #[.pointer (some ⟨g,0,none⟩),.int .i64 0,.int .i64 0])))
theorem aCW (hH:mR) (s:ByteArray) (w:World) (hm:s.size<=maxLen):
  Calls Tryz.prog 41 #[.string s] w fun e w'=>GR2 s w e w':=by
 rcases Nat.lt_or_ge 120 s.size with hs | hs
 ·refine (ID s w hs hm).mono ?_
  rintro e w1 ⟨rfl,rfl⟩
  exact ⟨World.grownBy.refl _ _,.inl ⟨1,0,.inl ⟨hs,rfl,rfl⟩,.inl rfl,rfl⟩⟩
 ·refine (DC hH s w hs).mono ?_
  rintro e w1 ⟨hg,hP⟩
  refine ⟨hg,?_⟩
  have hE:∀ (c:Int) (p:Nat),(match aV s (6*s.size+5) 0 with
   | .err q=>c=2/\p=q
   | .ok x j=>(j<s.size/\c=2/\p=j)\/(j=s.size/\cC (dQ x.1) (some p)/\c=3))->pB s c p:=fun c p h => .inr ⟨hs,h⟩
  have hT:∀ t,(∃ x,aV s (6*s.size+5) 0 = .ok x s.size/\cC (dQ x.1) none/\t=joinAlt x.1 x.2)->iL s t:=fun t h=>⟨hs,h⟩
  generalize aV s (6*s.size+5) 0=r at *
  cases r with
  | err p=>exact .inl ⟨2,p,hE _ _ ⟨rfl,rfl⟩,.inr (.inl rfl),hP⟩
  | ok x j=>
   rcases hP with ⟨h1,h2⟩ | ⟨rfl,o,hF,h2⟩
   ·exact .inl ⟨2,j,hE _ _ (.inl ⟨h1,rfl,rfl⟩),.inr (.inl rfl),h2⟩
   ·cases o with
    | some a=>exact .inl ⟨3,a,hE _ _ (.inr ⟨rfl,hF,rfl⟩),.inr (.inr rfl),h2⟩
    | none=>
     obtain ⟨g,h3,h4⟩:=h2
     exact .inr ⟨_,g,hT _ ⟨x,rfl,hF,rfl⟩,h4,h3⟩
def WR (s:ByteArray) (w:World) (e:Ending) (w':World):Prop:=
 w.grownBy w' none/\((∃ c p,pB s c p/\(c=1\/c=2\/c=3)/\e = .returned (.tuple #[.pointer none,.int .i64 c,.int .i64 (p:Int),.string ⟨#[]⟩]))\/
  (∃ t,iL s t/\((∃ t' n p u,(t',n)∈bL t/\(dR t')[n]? = some p/\pA t' n u/\u.length<=100000000/\e = .returned (.tuple #[.pointer none,.int .i64 4,.int .i64 (p:Int),.string (aE u)]))\/
   ((∀ x,x∈bL t->∀ u,¬ pA x.1 x.2 u)/\∃ g,LR s w' (fun k=>k<w.heap.size) t g/\e = .returned (.tuple #[.pointer (some ⟨g,0,none⟩),.int .i64 0,.int .i64 0,.string ⟨#[]⟩])))))
theorem pY {fn:Func} {t u v x:Tmp} (h:fn.results = #[.tmp t,.tmp u,.tmp v,.tmp x]) (tmps:Array Value) (P:Program) (w:World):
  (results fn tmps).run P w = .ok (.tuple #[tmps.getD t undef,tmps.getD u undef,tmps.getD v undef,tmps.getD x undef]) w:=by
 simp [results,h,go_sem]
theorem DD (hH:mR) (hFG:∀ s t,iL s t->FG t) (s:ByteArray) (w:World) (hm:s.size<=maxLen) (cW:nU w):
  Calls Tryz.prog 32 #[.string s] w fun e w'=>WR s w e w':=by
 have HR:=aB (aCW hH s w hm)
 go_enter Tryz.func32,Tryz.ntmps32
 go_wp2_with fail
 refine (aA HR).mono ?_
 rintro e w1 ⟨hg1,(⟨c,p,h1,hc,rfl⟩ | ⟨t,g,h1,h2,rfl⟩)⟩
 ·have H1:=aB (And.intro h1 (And.intro hc hg1))
  have hd:(c==0)=false:=by rcases hc with rfl | rfl | rfl <;> rfl
  clear h1 hg1 hc
  go_wp2
  ((try simp only [Exit.inBlock,Exit.then]);refine bodyPost_ret (pY rfl _ _ _) rfl ?_)
  exact ⟨(aA H1).2.2,.inl ⟨c,p,(aA H1).1,(aA H1).2.1,rfl⟩⟩
 ·have HF:=aB (IN h2 (hFG s t h1) (fun k hk=>by have:=hg1.size;omega) (cW.grown hg1))
  have H1:=aB (And.intro h1 (And.intro h2 hg1))
  clear h1 h2 hg1
  go_wp2_with fail
  refine (aA HF).mono ?_
  rintro e w2 ⟨(⟨t',n,p,u,q1,q2,q3,q4,rfl⟩ | ⟨rfl,q⟩),hg2⟩
  ·have H2:=aB (And.intro q1 (And.intro q2 (And.intro q3 (And.intro q4 hg2))))
   clear q1 q2 q3 q4 hg2
   go_wp2
   ((try simp only [Exit.inBlock,Exit.then]);refine bodyPost_ret (pY rfl _ _ _) rfl ?_)
   obtain ⟨h1,h2,hg1⟩:=aA H1
   obtain ⟨q1,q2,q3,q4,hg2⟩:=aA H2
   exact ⟨hg1.trans hg2,.inr ⟨t,h1,.inl ⟨t',n,p,u,q1,q2,q3,q4,rfl⟩⟩⟩
  ·have H2:=aB (And.intro q hg2)
   clear q hg2
   go_wp2
   ((try simp only [Exit.inBlock,Exit.then]);refine bodyPost_ret (pY rfl _ _ _) rfl ?_)
   obtain ⟨h1,h2,hg1⟩:=aA H1
   obtain ⟨q,hg2⟩:=aA H2
   exact ⟨hg1.trans hg2,.inr ⟨t,h1,.inr ⟨q,g,LR.kept (fun k hk _=>hg2.block k hk (by simp)) h2,rfl⟩⟩⟩
def WT (s:ByteArray) (w:World) (e:Ending) (w':World):Prop:=
 w.grownBy w' none/\((∃ c p,pB s c p/\(c=1\/c=2\/c=3)/\e = .returned (.tuple #[.int .i64 c,.int .i64 (p:Int),.string ⟨#[]⟩]))\/
  (∃ t,iL s t/\((∃ t' n p u,(t',n)∈bL t/\(dR t')[n]? = some p/\pA t' n u/\u.length<=100000000/\e = .returned (.tuple #[.int .i64 4,.int .i64 (p:Int),.string (aE u)]))\/
   ((∀ x,x∈bL t->∀ u,¬ pA x.1 x.2 u)/\e = .returned (.tuple #[.int .i64 0,.int .i64 0,.string ⟨#[]⟩])))))
theorem aD0 (hH:mR) (hFG:∀ s t,iL s t->FG t) (s:ByteArray) (w:World) (hm:s.size<=maxLen) (cW:nU w):
  Calls Tryz.prog 14 #[.string s] w fun e w'=>WT s w e w':=by
 have HR:=aB (DD hH hFG s w hm cW)
 go_enter Tryz.func14,Tryz.ntmps14
 go_wp2_with fail
 refine (aA HR).mono ?_
 rintro e w1 ⟨hg1,(⟨c,p,h1,hc,rfl⟩ | ⟨t,h1,(⟨t',n,p,u,q1,q2,q3,q4,rfl⟩ | ⟨q,g,_,rfl⟩)⟩)⟩
 ·have H1:=aB (And.intro h1 (And.intro hc hg1))
  clear h1 hg1 hc
  go_wp2
  go_ret3
  exact ⟨(aA H1).2.2,.inl ⟨c,p,(aA H1).1,(aA H1).2.1,rfl⟩⟩
 ·have H1:=aB (And.intro h1 (And.intro q1 (And.intro q2 (And.intro q3 (And.intro q4 hg1)))))
  clear h1 q1 q2 q3 q4 hg1
  go_wp2
  go_ret3
  obtain ⟨h1,q1,q2,q3,q4,hg1⟩:=aA H1
  exact ⟨hg1,.inr ⟨t,h1,.inl ⟨t',n,p,u,q1,q2,q3,q4,rfl⟩⟩⟩
 ·have H1:=aB (And.intro h1 (And.intro q hg1))
  clear h1 q hg1
  go_wp2
  go_ret3
  exact ⟨(aA H1).2.2,.inr ⟨t,(aA H1).1,.inr ⟨(aA H1).2.1,rfl⟩⟩⟩
theorem y9 (s:ByteArray):∀ n i,i+n<=s.size->∀ c,c∈fP s.data.toList i (mZ s n i)->bG (c.toNat:Int)=true
 | 0,i,_,c,h=>by rw [mZ,sub_self] at h;cases h
 | n+1,i,hi,c,h=>by
  rw [mZ] at h
  split at h
  ·rename_i hs
   have hb:=yI s n (i+1)
   have hlt:i<s.data.toList.length:=by have:s.data.toList.length=s.size:=rfl;omega
   rw [← jK _ i (i+1) _ (by omega) hb.1,List.mem_append] at h
   rcases h with h | h
   ·rw [T9 _ i _ (List.getElem?_eq_getElem hlt),List.mem_singleton] at h
    subst h
    rw [pk,dif_pos (by omega)] at hs
    exact hs
   ·exact y9 s n (i+1) (by omega) c h
  ·rw [sub_self] at h;cases h
mutual
theorem kG:∀ (t u x:LT),x∈subs u->u∈subs t->x∈subs t
 | .same l i j,u,x,hx,h=>by rw [subs,List.mem_singleton] at h;subst h;exact hx
 | .fixed l i j v d a,u,x,hx,h=>by rw [subs,List.mem_singleton] at h;subst h;exact hx
 | .swap at_ a b,u,x,hx,h=>by
  rw [subs,List.mem_cons,List.mem_append] at h
  rcases h with rfl | h | h
  ·exact hx
  ·rw [subs];exact List.mem_cons_of_mem _ (List.mem_append_left _ (kG a u x hx h))
  ·rw [subs];exact List.mem_cons_of_mem _ (List.mem_append_right _ (kG b u x hx h))
 | .group a,u,x,hx,h=>by
  rw [subs,List.mem_cons] at h
  rcases h with rfl | h
  ·exact hx
  ·rw [subs];exact List.mem_cons_of_mem _ (kG a u x hx h)
 | .many at_ a,u,x,hx,h=>by
  rw [subs,List.mem_cons] at h
  rcases h with rfl | h
  ·exact hx
  ·rw [subs];exact List.mem_cons_of_mem _ (kG a u x hx h)
 | .row l ps,u,x,hx,h=>by
  rw [subs,List.mem_cons] at h
  rcases h with rfl | h
  ·exact hx
  ·rw [subs];exact List.mem_cons_of_mem _ (rW l u x hx h)
 | .choice l ps,u,x,hx,h=>by
  rw [subs,List.mem_cons] at h
  rcases h with rfl | h
  ·exact hx
  ·rw [subs];exact List.mem_cons_of_mem _ (rW l u x hx h)
theorem rW:∀ (l:List LT) (u x:LT),x∈subs u->u∈dE l->x∈dE l
 | [],u,x,hx,h=>by rw [dE] at h;cases h
 | t::l,u,x,hx,h=>by
  rw [dE,List.mem_append] at h
  rw [dE,List.mem_append]
  rcases h with h | h
  ·exact .inl (kG t u x hx h)
  ·exact .inr (rW l u x hx h)
end
def nOk:LT->Prop
 | .same l _ _=>bO l
 | .fixed l _ _ v _ _=>bO l/\∀ c,c∈v->bG (c.toNat:Int)=true
 | .row l ps=>ps.length+1=l.length
 | .choice l ps=>ps.length+1=l.length
 | _=>True
def jZ (t:LT):Prop:=∀ u,u∈subs t->nOk u
theorem jZ.part {t u:LT} (h:jZ t) (hu:u∈parts t):jZ u:=fun x hx=>h x (by rw [gK];exact List.mem_cons_of_mem _ (mJ _ u x hu hx))
theorem jZ.self {t:LT} (h:jZ t):nOk t:=h t (by rw [gK];exact List.mem_cons_self)
theorem jZ.of {t:LT} (h0:nOk t) (h:∀ u,u∈parts t->jZ u):jZ t:=fun x hx=>by
 rw [gK] at hx
 rcases List.mem_cons.1 hx with rfl | hx
 ·exact h0
 ·obtain ⟨u,h1,h2⟩:=wO _ _ hx
  exact h u h1 x h2
theorem jZ.joinRow {l:List LT} {ps:List Nat} (h:∀ u,u∈l->jZ u) (hl:ps.length+1=l.length):jZ (joinRow l ps):=by
 match l,h with
 | [],h=>cases hl
 | [t],h=>exact h t List.mem_cons_self
 | t::u::l,h=>exact jZ.of hl (fun u hu=>h u hu)
theorem jZ.joinAlt {l:List LT} {ps:List Nat} (h:∀ u,u∈l->jZ u) (hl:ps.length+1=l.length):jZ (joinAlt l ps):=by
 match l,h with
 | [],h=>cases hl
 | [t],h=>exact h t List.mem_cons_self
 | t::u::l,h=>exact jZ.of hl (fun u hu=>h u hu)
mutual
def iZ:LT->Nat
 | .same l _ _=>aR l+1
 | .fixed l _ _ v _ _=>aR l+v.length+1
 | .swap _ a b=>iZ a+iZ b+1
 | .group a=>iZ a+1
 | .many _ a=>iZ a+1
 | .row l _=>iG l+1
 | .choice l _=>iG l+1
def iG:List LT->Nat
 | []=>0
 | t::l=>iZ t+iG l
end
theorem CB (l:List LT) (ps:List Nat):iZ (joinRow l ps)<=iG l+1:=by
 match l with
 | []=>rw [joinRow,iZ];exact Nat.le_refl _;intro t h;cases h
 | [t]=>rw [joinRow,iG,iG];omega
 | t::u::l=>rw [joinRow,iZ];exact Nat.le_refl _;intro t h;cases h
theorem oL (l:List LT) (ps:List Nat):iZ (joinAlt l ps)<=iG l+1:=by
 match l with
 | []=>rw [joinAlt,iZ];exact Nat.le_refl _;intro t h;cases h
 | [t]=>rw [joinAlt,iG,iG];omega
 | t::u::l=>rw [joinAlt,iZ];exact Nat.le_refl _;intro t h;cases h
theorem kO (t:LT):iG (parts t)+1<=iZ t:=by
 cases t <;> simp only [parts,iZ,iG] <;> omega
theorem B9:∀ (l:List LT) (t:LT),t∈l->iZ t<=iG l
 | x::l,t,h=>by
  rw [iG]
  rcases List.mem_cons.1 h with rfl | h
  ·omega
  ·have:=B9 l t h;omega
mutual
theorem nJ:∀ (t u:LT),u∈subs t->iZ u<=iZ t
 | .same l i j,u,h=>by rw [subs,List.mem_singleton] at h;subst h;exact Nat.le_refl _
 | .fixed l i j v d a,u,h=>by rw [subs,List.mem_singleton] at h;subst h;exact Nat.le_refl _
 | .swap at_ a b,u,h=>by
  rw [subs,List.mem_cons,List.mem_append] at h
  rcases h with rfl | h | h
  ·exact Nat.le_refl _
  ·have:=nJ a u h;rw [iZ];omega
  ·have:=nJ b u h;rw [iZ];omega
 | .group a,u,h=>by
  rw [subs,List.mem_cons] at h
  rcases h with rfl | h
  ·exact Nat.le_refl _
  ·have:=nJ a u h;rw [iZ];omega
 | .many at_ a,u,h=>by
  rw [subs,List.mem_cons] at h
  rcases h with rfl | h
  ·exact Nat.le_refl _
  ·have:=nJ a u h;rw [iZ];omega
 | .row l ps,u,h=>by
  rw [subs,List.mem_cons] at h
  rcases h with rfl | h
  ·exact Nat.le_refl _
  ·have:=yT l u h;rw [iZ];omega
 | .choice l ps,u,h=>by
  rw [subs,List.mem_cons] at h
  rcases h with rfl | h
  ·exact Nat.le_refl _
  ·have:=yT l u h;rw [iZ];omega
theorem yT:∀ (l:List LT) (u:LT),u∈dE l->iZ u<=iG l
 | [],u,h=>by rw [dE] at h;cases h
 | t::l,u,h=>by
  rw [dE,List.mem_append] at h
  rw [iG]
  rcases h with h | h
  ·have:=nJ t u h;omega
  ·have:=yT l u h;omega
end
theorem ZY (t:LT):1<=iZ t:=by cases t <;> rw [iZ] <;> omega
theorem CC:∀ l:List LT,l.length<=iG l
 | []=>by simp
 | t::l=>by rw [iG,List.length_cons];have:=ZY t;have:=CC l;omega
theorem wR:∀ v:List UInt8,aR (v.map fun c=>PT.chr [c])=v.length
 | []=>by rw [List.map_nil,aR];rfl
 | c::v=>by rw [List.map_cons,aR,aP,wR v,List.length_cons];omega
mutual
theorem fE (v:Bool):∀ t,aP (aS v t)<=iZ t
 | .same l i j=>by rw [aS,iZ];have:=xA (.alt l);rw [aP] at this;exact this
 | .fixed l i j vw d a=>by
  rw [aS,iZ]
  split
  ·have:=kJ (vw.map fun c=>PT.chr [c]);rw [wR] at this;omega
  ·have:=xA (.alt l);rw [aP] at this;omega
 | .swap at_ a b=>by
  rw [aS,iZ]
  have h1:=fE v a
  have h2:=fE v b
  split
  ·have:=kJ [aS v b,aS v a];simp only [aR] at this;omega
  ·have:=kJ [aS v a,aS v b];simp only [aR] at this;omega
 | .group a=>by rw [aS,iZ];have:=fE v a;omega
 | .many at_ a=>by rw [aS,iZ,aP];have:=fE v a;omega
 | .row l ps=>by rw [aS,iZ];have:=kJ (aW v l);have:=oI v l;omega
 | .choice l ps=>by rw [aS,iZ];have:=yM (aW v l);have:=oI v l;omega
theorem oI (v:Bool):∀ l,aR (aW v l)<=iG l
 | []=>by rw [aW,aR];omega
 | t::l=>by rw [aW,aR,iG];have:=fE v t;have:=oI v l;omega
end
theorem zZ:∀ v:List UInt8,bO (v.map fun c=>PT.chr [c])
 | []=>by rw [List.map_nil,bO];trivial
 | c::v=>by rw [List.map_cons,bO,aX];exact ⟨trivial,zZ v⟩
mutual
theorem iQ (v:Bool):∀ t,jZ t->aX (aS v t)
 | .same l i j,h=>by rw [aS];exact BZ _ (by rw [aX];exact h.self)
 | .fixed l i j vw d a,h=>by
  rw [aS]
  split
  ·exact qE (zZ vw)
  ·exact BZ _ (by rw [aX];exact h.self.1)
 | .swap at_ a b,h=>by
  rw [aS]
  have h1:=iQ v a (h.part (by simp [parts]))
  have h2:=iQ v b (h.part (by simp [parts]))
  split
  ·exact qE (by simp only [bO];exact ⟨h2,h1,trivial⟩)
  ·exact qE (by simp only [bO];exact ⟨h1,h2,trivial⟩)
 | .group a,h=>by rw [aS];exact iQ v a (h.part (by simp [parts]))
 | .many at_ a,h=>by rw [aS,aX];exact ⟨.inl rfl,iQ v a (h.part (by simp [parts]))⟩
 | .row l ps,h=>by rw [aS];exact qE (tJ v l (fun u hu=>h.part hu))
 | .choice l ps,h=>by rw [aS];exact U9 (tJ v l (fun u hu=>h.part hu))
theorem tJ (v:Bool):∀ l,(∀ u,u∈l->jZ u)->bO (aW v l)
 | [],_=>by rw [aW,bO];trivial
 | t::l,h=>by rw [aW,bO];exact ⟨iQ v t (h t List.mem_cons_self),tJ v l (fun u hu=>h u (List.mem_cons_of_mem _ hu))⟩
end
theorem vC (v:Bool) (t:LT):aR (cL v t)<=iG (parts t):=by
 unfold cL
 split
 ·rename_i a b
  have h1:=fE v a
  have h2:=fE v b
  split <;> simp only [aR,parts,iG] <;> omega
 ·exact oI v _
theorem wV (v:Bool) (t:LT) (h:jZ t):bO (cL v t):=by
 unfold cL
 split
 ·rename_i a b
  have h1:=iQ v a (h.part (by simp [parts]))
  have h2:=iQ v b (h.part (by simp [parts]))
  split <;> simp only [bO] <;> simp [h1,h2]
 ·exact tJ v _ (fun u hu=>h.part hu)
theorem x9:∀ (l:List PT) (n:Nat) (t:PT),l[n]? = some t->aP t<=aR l
 | x::l,0,t,h=>by simp at h;subst h;rw [aR];omega
 | x::l,n+1,t,h=>by rw [aR];have:=x9 l n t (by simpa using h);omega
theorem oJ:∀ (l:List PT) (n:Nat),bO l->bO (l.take n)
 | [],n,h=>by simpa using h
 | t::l,0,h=>by rw [List.take_zero,bO];trivial
 | t::l,n+1,h=>by rw [bO] at h;rw [List.take_succ_cons,bO];exact ⟨h.1,oJ l n h.2⟩
theorem P5:∀ (l:List PT) (n:Nat) (t:PT),bO l->l[n]? = some t->aX t
 | x::l,0,t,h,e=>by simp at e;subst e;rw [bO] at h;exact h.1
 | x::l,n+1,t,h,e=>by rw [bO] at h;exact P5 l n t h.2 (by simpa using e)
theorem aBR {v:Bool} {t:LT} {n:Nat} (h:jZ t) (hz:iZ t<=400):aX (yF v t n)/\aP (yF v t n)<=1000:=by
 unfold yF
 have h1:=vC v t
 have h2:=kO t
 cases e:(cL v t)[n+1]? with
 | none=>refine ⟨?_,?_⟩ <;> simp [aX,bO,aP,aR]
 | some x=>exact ⟨P5 _ _ _ (wV v t h) e,by have:=x9 _ _ _ e;simp only [Option.getD_some];omega⟩
theorem aC5 {t:LT} {n:Nat} (h:jZ t) (hz:iZ t<=400) (hn:uC t n):JOk t n/\n<(dR t).length:=by
 have h1:=fun v=>vC v t
 have h2:=kO t
 refine ⟨⟨?_,fun v=>?_,?_⟩,?_⟩
 ·cases t <;> exact hn
 ·have ha:aX (MM v t n):=qE (oJ _ _ (wV v t h))
  have hb:=aBR (v:=v) (n:=n) h hz
  have hc:aP (MM v t n)<=1000:=by
   have:=kJ ((cL v t).take (n+1))
   have:=gV (cL v t) (n+1)
   have:=h1 v
   show aP (gM _)<=1000
   omega
  cases t with
  | many at_ a=>
   refine ⟨iQ v a (h.part (by simp [parts])),?_⟩
   have:=fE v a
   rw [iZ] at hz
   omega
  | _=>exact ⟨ha,hb.1,hc,hb.2⟩
 ·refine ⟨U9 (oJ _ _ (wV false t h)),?_⟩
  have:=yM ((cL false t).take (n+1))
  have:=gV (cL false t) (n+1)
  have:=h1 false
  show aP (rF _)<=1000
  omega
 ·have h3:=h.self
  cases t with
  | same l i j=>simp [uC,parts] at hn
  | fixed l i j v d a=>simp [uC,parts] at hn
  | swap at_ a b=>simp [uC,parts] at hn;simp [dR];omega
  | group a=>simp [uC,parts] at hn
  | many at_ a=>simp [uC] at hn;simp [dR,hn]
  | row l ps=>simp only [uC,parts] at hn;simp only [nOk] at h3;simp only [dR];omega
  | choice l ps=>simp only [uC,parts] at hn;simp only [nOk] at h3;simp only [dR];omega
theorem FG.of {t:LT} (h:jZ t) (hz:iZ t<=400):FG t:=by
 refine ⟨fun u hu=>?_,fun u hu n hn=>aC5 (fun x hx=>?_) (Nat.le_trans (nJ t u hu) hz) hn⟩
 ·have h1:=h u hu
  have h2:=nJ t u hu
  have h3:=kO u
  have h4:=CC (parts u)
  cases u with
  | fixed l i j v d a=>rw [iZ] at h2;exact ⟨h1.2,by omega⟩
  | _=>simp only [vOk];omega
 ·exact h x (kG t u x hx hu)
theorem kH (s:ByteArray) (i:Nat):i<=aF s i:=(wU s _ i).1
theorem G0 {s:ByteArray} {i:Nat} {v:List UInt8} {j:Nat} (h:bN s i = .ok v j):(∀ c,c∈v->bG (c.toNat:Int)=true)/\i+v.length+2=j/\j<=s.size:=by
 unfold bN at h
 split at h
 ·rename_i h1
  split at h
  ·rename_i h2
   cases h
   have a1:=bY (s:=s) (i:=i) (by rw [h1];decide)
   have a2:=bY (s:=s) (i:=dL s (i+1)) (by rw [h2];decide)
   have a3:=tI s (i+1) a1
   have hl:s.data.toList.length=s.size:=rfl
   refine ⟨fun c hc=>y9 s (s.size-(i+1)) (i+1) (by omega) c hc,?_,by omega⟩
   rw [fJ _ _ _ (by omega)]
   omega
  ·cases h
 ·cases h
theorem OM {s:ByteArray} (hs:s.size<=120) {n i:Nat} {t:LT} {j:Nat} (h:eY s n i = .ok t j):jZ t/\iZ t+3*i<=3*j:=by
 unfold eY at h
 cases hg:cI s n (i+1) with
 | err p=>rw [hg] at h;cases h
 | ok l k=>
  rw [hg] at h
  simp only [cN.bind] at h
  split at h
  ·have hsz:=(IG s n).2.2 _ _ _ hg
   have gG:=(sU s hs n _ _ _ hg).2
   split at h
   ·cases hq:bN s (aF s (k+1)) with
    | err p=>rw [hq] at h;cases h
    | ok v k1=>
     rw [hq] at h
     simp only at h
     cases cH:bN s (aF s k1) with
     | err p=>rw [cH] at h;cases h
     | ok d m=>
      rw [cH] at h
      cases h
      have q1:=G0 hq
      have q2:=G0 cH
      have q3:=kH s (k+1)
      have q4:=kH s k1
      exact ⟨jZ.of ⟨gG,q1.1⟩ (fun u hu=>absurd hu (List.not_mem_nil)),by rw [iZ];omega⟩
   ·cases h
    have q3:=kH s (k+1)
    exact ⟨jZ.of gG (fun u hu=>absurd hu (List.not_mem_nil)),by rw [iZ];omega⟩
  ·cases h
theorem aBL (s:ByteArray) (hs:s.size<=120):∀ n,(∀ i t j,bX s n i = .ok t j->jZ t/\iZ t+3*i<=3*j)/\(∀ i t j,dT s n i = .ok t j->jZ t/\iZ t+3*i<=3*j)/\
  (∀ i x j,bI s n i = .ok x j->(∀ u,u∈x.1->jZ u)/\x.2.length+1=x.1.length/\iG x.1+3*i<=3*j)/\(∀ i x j,aV s n i = .ok x j->(∀ u,u∈x.1->jZ u)/\x.2.length+1=x.1.length/\iG x.1+3*i<=3*j+1)
 | 0=>⟨fun i t j h=>(by rw [bX] at h;cases h),fun i l j h=>(by rw [dT] at h;cases h),fun i l j h=>(by rw [bI] at h;cases h),fun i l j h=>(by rw [aV] at h;cases h)⟩
 | n+1=>by
  obtain ⟨k1,k2,k3,k4⟩:=aBL s hs n
  refine ⟨fun i t j h=>?_,fun i t j h=>?_,fun i t j h=>?_,fun i t j h=>?_⟩
  ·rw [bX] at h
   split at h
   ·exact OM hs h
   ·split at h
    ·split at h
     ·cases hq:aV s n (aF s (i+1)+1) with
      | err p=>rw [hq] at h;cases h
      | ok a j1=>
       rw [hq] at h
       simp only [cN.bind] at h
       have h1:=k4 _ _ _ hq
       split at h
       ·cases cH:aV s n (j1+1) with
        | err p=>rw [cH] at h;cases h
        | ok b k=>
         rw [cH] at h
         simp only at h
         have h3:=k4 _ _ _ cH
         split at h
         ·cases h
          refine ⟨jZ.of trivial (fun u hu=>?_),?_⟩
          ·rw [parts] at hu
           rcases List.mem_cons.1 hu with rfl | hu
           ·exact jZ.joinAlt h1.1 h1.2.1
           ·rw [List.mem_singleton] at hu
            subst hu
            exact jZ.joinAlt h3.1 h3.2.1
          ·have:=oL a.1 a.2
           have:=oL b.1 b.2
           have:=kH s (i+1)
           rw [iZ]
           omega
         ·cases h
       ·cases h
     ·cases h
    ·split at h
     ·cases hq:aV s n (i+1) with
      | err p=>rw [hq] at h;cases h
      | ok a j1=>
       rw [hq] at h
       simp only [cN.bind] at h
       have h1:=k4 _ _ _ hq
       split at h
       ·cases h
        refine ⟨jZ.of trivial (fun u hu=>?_),?_⟩
        ·rw [parts,List.mem_singleton] at hu
         subst hu
         exact jZ.joinAlt h1.1 h1.2.1
        ·have:=oL a.1 a.2
         rw [iZ]
         omega
       ·cases h
     ·cases h
  ·rw [dT] at h
   cases hq:bX s n i with
   | err p=>rw [hq] at h;cases h
   | ok a j1=>
    rw [hq] at h
    simp only [cN.bind] at h
    have h1:=k1 _ _ _ hq
    have h2:=kH s j1
    split at h
    ·cases h
     refine ⟨jZ.of trivial (fun u hu=>?_),?_⟩
     ·rw [parts,List.mem_singleton] at hu
      subst hu
      exact h1.1
     ·have:=kH s (aF s j1+1)
      rw [iZ]
      omega
    ·cases h
     exact ⟨h1.1,by omega⟩
  ·rw [bI] at h
   cases hq:dT s n i with
   | err p=>rw [hq] at h;cases h
   | ok a j1=>
    rw [hq] at h
    simp only [cN.bind] at h
    have h1:=k2 _ _ _ hq
    split at h
    ·cases cH:bI s n j1 with
     | err p=>rw [cH] at h;cases h
     | ok b k=>
      rw [cH] at h
      have h3:=k3 _ _ _ cH
      cases h
      refine ⟨fun u hu=>?_,by simp only [List.length_cons];omega,by simp only [iG];omega⟩
      rcases List.mem_cons.1 hu with rfl | hu
      ·exact h1.1
      ·exact h3.1 u hu
    ·cases h
     refine ⟨fun u hu=>?_,rfl,by simp only [iG];omega⟩
     rw [List.mem_singleton] at hu
     subst hu
     exact h1.1
  ·rw [aV] at h
   cases hq:bI s n (aF s i) with
   | err p=>rw [hq] at h;cases h
   | ok a j1=>
    rw [hq] at h
    simp only [cN.bind] at h
    have h1:=k3 _ _ _ hq
    have h0:=kH s i
    have hj:=CB a.1 a.2
    split at h
    ·cases cH:aV s n (j1+1) with
     | err p=>rw [cH] at h;cases h
     | ok b k=>
      rw [cH] at h
      have h3:=k4 _ _ _ cH
      cases h
      refine ⟨fun u hu=>?_,by simp only [List.length_cons];omega,by simp only [iG];omega⟩
      rcases List.mem_cons.1 hu with rfl | hu
      ·exact jZ.joinRow h1.1 h1.2.1
      ·exact h3.1 u hu
    ·cases h
     refine ⟨fun u hu=>?_,rfl,by simp only [iG];omega⟩
     rw [List.mem_singleton] at hu
     subst hu
     exact jZ.joinRow h1.1 h1.2.1
theorem o0 {s:ByteArray} {t:LT} (h:iL s t):jZ t/\iZ t<=400:=by
 obtain ⟨hs,x,hg,_,rfl⟩:=h
 obtain ⟨h1,h2,h3⟩:=(aBL s hs _).2.2.2 _ _ _ hg
 exact ⟨jZ.joinAlt h1 h2,by have:=oL x.1 x.2;omega⟩
theorem JY (s:ByteArray) (t:LT) (h:iL s t):FG t:=FG.of (o0 h).1 (o0 h).2
theorem IX (s:ByteArray) (w:World) (hm:s.size<=maxLen) (cW:nU w):
  Calls Tryz.prog 14 #[.string s] w fun e w'=>WT s w e w':=aD0 vM JY s w hm cW
theorem Y7 (s:ByteArray) (w:World) (hm:s.size<=maxLen) (cW:nU w):
  Calls Tryz.prog 32 #[.string s] w fun e w'=>WR s w e w':=DD vM JY s w hm cW
end Go.Proofs.YtlljggefbngkeaaGreatDoor
namespace Go.Proofs.YtlljggefbngkeaaGreatDoor
open Go.RowKit
def bM (v:Bool) (b:BT):PT:=if v then bV b else bS b
theorem JG {a b:PT} {u:List UInt8}:M (.seq [a,b]) u↔∃ x y,u=x++y/\M a x/\M b y:=by
 constructor
 ·intro h
  cases h with
  | seq h=>
   cases h with
   | cons h1 h2=>
    cases h2 with
    | cons h3 h4=>cases h4;exact ⟨_,_,by rw [List.append_nil],h1,h3⟩
 ·rintro ⟨x,y,rfl,h1,h2⟩
  have:=M.seq (ML.cons h1 (ML.cons h2 ML.nil))
  rw [List.append_nil] at this
  exact this
theorem JI {a b:PT} {u:List UInt8}:M (.alt [a,b]) u↔M a u\/M b u:=by
 constructor
 ·intro h
  cases h with
  | alt h1 h2=>
   rcases List.mem_cons.1 h1 with rfl | h1
   ·exact .inl h2
   ·rw [List.mem_singleton] at h1
    subst h1
    exact .inr h2
 ·rintro (h | h)
  ·exact .alt (by simp) h
  ·exact .alt (t:=b) (by simp) h
theorem VO {v:Bool} {p:Nat} {a b:BT} {u:List UInt8}:M (bM v (.two 114 p a b)) u↔∃ x y,u=x++y/\M (bM v a) x/\M (bM v b) y:=by
 cases v <;> simp only [bM,bS,bV,Bool.false_eq_true,if_false,if_true] <;> exact JG
theorem aDF {v:Bool} {p:Nat} {a b:BT} {u:List UInt8}:M (bM v (.two 124 p a b)) u↔M (bM v a) u\/M (bM v b) u:=by
 cases v <;> simp only [bM,bS,bV,Bool.false_eq_true,if_false,if_true] <;> exact JI
theorem p6 {t t':PT} (H:∀ u,M t u↔M t' u) (u:List UInt8):M (.rep 42 t) u↔M (.rep 42 t') u:=
 ⟨U3 fun u=>(H u).1,U3 fun u=>(H u).2⟩
theorem tZ {t:PT} {l:List PT} {u:List UInt8}:ML (t::l) u↔∃ x y,u=x++y/\M t x/\ML l y:=by
 constructor
 ·intro h
  cases h with
  | cons h1 h2=>exact ⟨_,_,rfl,h1,h2⟩
 ·rintro ⟨x,y,rfl,h1,h2⟩
  exact .cons h1 h2
theorem JJ {u:List UInt8}:ML [] u↔u=[]:=⟨fun h=>by cases h;rfl,fun h=>by rw [h];exact .nil⟩
theorem BE (v:Bool):∀ (l:List LT) (c:BT) (ps:List Nat),(∀ t,t∈l->∀ u,M (bM v (bP t)) u↔M (aS v t) u)->∀ u,M (bM v (eH 114 c l ps)) u↔∃ x y,u=x++y/\M (bM v c) x/\ML (aW v l) y
 | [],c,ps,H,u=>by
  rw [eH,aW]
  constructor
  ·intro h;exact ⟨u,[],by simp,h,.nil⟩
  ·rintro ⟨x,y,rfl,h1,h2⟩
   rw [JJ] at h2
   subst h2
   rw [List.append_nil];exact h1
 | t::l,c,ps,H,u=>by
  rw [eH,aW,BE v l _ _ fun t ht=>H t (List.mem_cons_of_mem _ ht)]
  constructor
  ·rintro ⟨x,y,rfl,h1,h2⟩
   obtain ⟨x1,x2,rfl,h3,h4⟩:=VO.1 h1
   exact ⟨x1,x2++y,by rw [List.append_assoc],h3,.cons ((H t List.mem_cons_self _).1 h4) h2⟩
  ·rintro ⟨x,y,rfl,h1,h2⟩
   obtain ⟨y1,y2,rfl,h3,h4⟩:=tZ.1 h2
   exact ⟨x++y1,y2,by rw [List.append_assoc],VO.2 ⟨x,y1,rfl,h1,(H t List.mem_cons_self _).2 h3⟩,h4⟩
theorem A4 (v:Bool) {l:List LT} {ps:List Nat} (hl:0<l.length) (H:∀ t,t∈l->∀ u,M (bM v (bP t)) u↔M (aS v t) u) (u:List UInt8):M (bM v (cX 114 l ps)) u↔ML (aW v l) u:=by
 match l,hl with
 | t::l,_=>
  rw [cX,BE v l _ _ fun t ht=>H t (List.mem_cons_of_mem _ ht),aW,tZ]
  constructor
  ·rintro ⟨x,y,e,h1,h2⟩;exact ⟨x,y,e,(H t List.mem_cons_self _).1 h1,h2⟩
  ·rintro ⟨x,y,e,h1,h2⟩;exact ⟨x,y,e,(H t List.mem_cons_self _).2 h1,h2⟩
theorem BG (v:Bool):∀ (l:List LT) (c:BT) (ps:List Nat),(∀ t,t∈l->∀ u,M (bM v (bP t)) u↔M (aS v t) u)->∀ u,M (bM v (eH 124 c l ps)) u↔M (bM v c) u\/∃ t,t∈aW v l/\M t u
 | [],c,ps,H,u=>by
  rw [eH,aW]
  simp
 | t::l,c,ps,H,u=>by
  rw [eH,aW,BG v l _ _ (fun t ht=>H t (List.mem_cons_of_mem _ ht)),aDF,H t List.mem_cons_self]
  constructor
  ·rintro ((h | h) | ⟨x,h1,h2⟩)
   ·exact .inl h
   ·exact .inr ⟨_,List.mem_cons_self,h⟩
   ·exact .inr ⟨x,List.mem_cons_of_mem _ h1,h2⟩
  ·rintro (h | ⟨x,h1,h2⟩)
   ·exact .inl (.inl h)
   ·rcases List.mem_cons.1 h1 with rfl | h1
    ·exact .inl (.inr h2)
    ·exact .inr ⟨x,h1,h2⟩
theorem wW (v:Bool) {l:List LT} {ps:List Nat} (hl:0<l.length) (H:∀ t,t∈l->∀ u,M (bM v (bP t)) u↔M (aS v t) u) (u:List UInt8):M (bM v (cX 124 l ps)) u↔∃ t,t∈aW v l/\M t u:=by
 match l,hl with
 | t::l,_=>
  rw [cX,BG v l _ _ (fun t ht=>H t (List.mem_cons_of_mem _ ht)),aW,H t List.mem_cons_self]
  constructor
  ·rintro (h | ⟨x,h1,h2⟩)
   ·exact ⟨_,List.mem_cons_self,h⟩
   ·exact ⟨x,List.mem_cons_of_mem _ h1,h2⟩
  ·rintro ⟨x,h1,h2⟩
   rcases List.mem_cons.1 h1 with rfl | h1
   ·exact .inl h2
   ·exact .inr ⟨x,h1,h2⟩
mutual
theorem cV (v:Bool):∀ (t:LT),jZ t->∀ u,M (bM v (bP t)) u↔M (aS v t) u
 | .same l i j,h,u=>by
  rw [bP,aS,AE]
  cases v <;> exact Iff.rfl
 | .fixed l i j w d a,h,u=>by
  rw [bP,aS]
  cases v
  ·simp only [Bool.false_eq_true,if_false]
   rw [AE];exact Iff.rfl
  ·simp only [if_true]
   rw [zM]
   show M (bV _) u↔_
   rw [bV]
   constructor
   ·intro h
    cases h with
    | alt h1 h2=>
     rw [List.mem_singleton] at h1
     subst h1
     cases h2;assumption
   ·intro h;exact .alt List.mem_cons_self (.seq h)
 | .swap p a b,h,u=>by
  have ha:=cV v a (h.part (by simp [parts]))
  have hb:=cV v b (h.part (by simp [parts]))
  rw [bP,aS,zM]
  cases v
  ·simp only [bM,bS,Bool.false_eq_true,if_false] at ha hb ⊢
   rw [if_neg (by decide),JG,tZ]
   constructor
   ·rintro ⟨x,y,rfl,h1,h2⟩;exact ⟨x,y,rfl,(ha _).1 h1,by have:=ML.cons ((hb _).1 h2) ML.nil;rwa [List.append_nil] at this⟩
   ·rintro ⟨x,y,rfl,h1,h2⟩
    obtain ⟨y1,y2,rfl,h3,h4⟩:=tZ.1 h2
    rw [JJ] at h4
    subst h4
    exact ⟨x,y1,by rw [List.append_nil],(ha _).2 h1,(hb _).2 h3⟩
  ·simp only [bM,bV,if_true] at ha hb ⊢
   rw [if_neg (by decide),JG,tZ]
   constructor
   ·rintro ⟨x,y,rfl,h1,h2⟩;exact ⟨x,y,rfl,(hb _).1 h1,by have:=ML.cons ((ha _).1 h2) ML.nil;rwa [List.append_nil] at this⟩
   ·rintro ⟨x,y,rfl,h1,h2⟩
    obtain ⟨y1,y2,rfl,h3,h4⟩:=tZ.1 h2
    rw [JJ] at h4
    subst h4
    exact ⟨x,y1,by rw [List.append_nil],(hb _).2 h1,(ha _).2 h3⟩
 | .group a,h,u=>by
  rw [bP,aS]
  exact cV v a (h.part (by simp [parts])) u
 | .many p a,h,u=>by
  have ha:=cV v a (h.part (by simp [parts]))
  rw [bP,aS,← p6 ha]
  cases v <;> exact Iff.rfl
 | .row l ps,h,u=>by
  have h0:ps.length+1=l.length:=h.self
  rw [bP,aS,zM]
  exact A4 v (by omega) (lF v l fun t ht=>h.part ht) u
 | .choice l ps,h,u=>by
  have h0:ps.length+1=l.length:=h.self
  rw [bP,aS,JH]
  exact wW v (by omega) (lF v l fun t ht=>h.part ht) u
theorem lF (v:Bool):∀ (l:List LT),(∀ t,t∈l->jZ t)->∀ t,t∈l->∀ u,M (bM v (bP t)) u↔M (aS v t) u
 | [],h,t,ht=>by cases ht
 | x::l,h,t,ht=>by
  rcases List.mem_cons.1 ht with e | ht
  ·rw [e];exact cV v x (h x List.mem_cons_self)
  ·exact lF v l (fun t ht=>h t (List.mem_cons_of_mem _ ht)) t ht
end
theorem iT.congr {a b a' b':PT} (ha:∀ u,M a u↔M a' u) (hb:∀ u,M b u↔M b' u) (u:List UInt8):iT a b u↔iT a' b' u:=by
 constructor
 ·rintro ⟨w,u1,u2,e,hu,h1,h2,h3,h4⟩
  exact ⟨w,u1,u2,e,hu,(ha _).1 h1,(hb _).1 h2,(ha _).1 h3,(hb _).1 h4⟩
 ·rintro ⟨w,u1,u2,e,hu,h1,h2,h3,h4⟩
  exact ⟨w,u1,u2,e,hu,(ha _).2 h1,(hb _).2 h2,(ha _).2 h3,(hb _).2 h4⟩
theorem f8.congr {t t':PT} (h:∀ u,M t u↔M t' u) {d:List UInt8}:f8 t d↔f8 t' d:=by
 constructor
 ·rintro ⟨E,hE,r⟩;exact ⟨E,fun i j=>(hE i j).trans (h _),r⟩
 ·rintro ⟨E,hE,r⟩;exact ⟨E,fun i j=>(hE i j).trans (h _).symm,r⟩
theorem N6 {t:PT} {d:List UInt8} (h:f8 t d):aBO t d:=by
 obtain ⟨E,hE,r⟩:=h
 exact FF (fun i j _ _=>hE i j) r
theorem oH (v:Bool):∀ (l:List LT) (n:Nat),aW v (l.take n)=(aW v l).take n
 | [],n=>by simp [aW]
 | t::l,0=>by simp [aW]
 | t::l,n+1=>by rw [List.take_succ_cons,aW,aW,List.take_succ_cons,oH v l n]
theorem kI (v:Bool):∀ (l:List LT) (n:Nat) (t:LT),l[n]? = some t->(aW v l)[n]? = some (aS v t)
 | x::l,0,t,h=>by
  rw [List.getElem?_cons_zero] at h
  rw [aW,List.getElem?_cons_zero,Option.some.inj h]
 | x::l,n+1,t,h=>by
  rw [List.getElem?_cons_succ] at h
  rw [aW,List.getElem?_cons_succ]
  exact kI v l n t h
section
variable {l:List LT} {ps:List Nat} {n:Nat} {t:LT} {p:Nat}
theorem MV (h:jZ (.row l ps)) (ht:l[n+1]? = some t) (u:List UInt8):
  n7 (.two 114 p (cX 114 (l.take (n+1)) (ps.take n)) (bP t)) u↔pA (.row l ps) n u:=by
 have CM:∀ t,t∈l->jZ t:=fun t ht=>h.part ht
 have hA:∀ v u,M (bM v (cX 114 (l.take (n+1)) (ps.take n))) u↔M (MM v (.row l ps) n) u:=fun v u=>by
  have h0:0<(l.take (n+1)).length:=by
   have:=(List.getElem?_eq_some_iff.1 ht).1
   rw [List.length_take];omega
  rw [A4 v h0 (lF v _ fun t ht=>CM t (List.mem_of_mem_take ht))]
  show _↔M (gM ((aW v l).take (n+1))) u
  rw [zM,oH]
 have hB:∀ v u,M (bM v (bP t)) u↔M (yF v (.row l ps) n) u:=fun v u=>by
  rw [cV v t (CM t (List.mem_of_getElem? ht))]
  show _↔M (((aW v l)[n+1]?).getD (.seq [])) u
  rw [kI v l _ t ht]
  exact Iff.rfl
 rw [n7,if_neg (by decide),if_neg (by decide)]
 exact or_congr (iT.congr (hA false) (hB false) u) (iT.congr (hA true) (hB true) u)
theorem Z2 (h:jZ (.choice l ps)) (ht:l[n+1]? = some t) (u:List UInt8):
  n7 (.two 124 p (cX 124 (l.take (n+1)) (ps.take n)) (bP t)) u↔pA (.choice l ps) n u:=by
 have CM:∀ t,t∈l->jZ t:=fun t ht=>h.part ht
 have hA:∀ u,M (bS (cX 124 (l.take (n+1)) (ps.take n))) u↔M (YU (.choice l ps) n) u:=fun u=>by
  have h0:0<(l.take (n+1)).length:=by
   have:=(List.getElem?_eq_some_iff.1 ht).1
   rw [List.length_take];omega
  have:=wW false (ps:=ps.take n) h0 (lF false _ fun t ht=>CM t (List.mem_of_mem_take ht)) u
  refine this.trans ?_
  show _↔M (rF ((aW false l).take (n+1))) u
  rw [JH,oH]
 have hB:∀ u,M (bS (bP t)) u↔M (yF false (.choice l ps) n) u:=fun u=>by
  refine (cV false t (CM t (List.mem_of_getElem? ht)) u).trans ?_
  show _↔M (((aW false l)[n+1]?).getD (.seq [])) u
  rw [kI false l _ t ht]
  exact Iff.rfl
 rw [n7,if_pos rfl]
 exact and_congr (hA u) (hB u)
end
theorem EV {p:Nat} {a b:LT} (h:jZ (.swap p a b)) (u:List UInt8):n7 (.two 126 p (bP a) (bP b)) u↔pA (.swap p a b) 0 u:=by
 have ha:=fun v=>cV v a (h.part (by simp [parts]))
 have hb:=fun v=>cV v b (h.part (by simp [parts]))
 rw [n7,if_neg (by decide),if_pos rfl]
 exact or_congr (iT.congr (ha false) (hb false) u) (iT.congr (hb true) (ha true) u)
theorem ZV {p:Nat} {a:LT} (h:jZ (.many p a)) {u:List UInt8} (hu:n7 (.star p (bP a)) u):∃ u',pA (.many p a) 0 u':=by
 have ha:=fun v=>cV v a (h.part (by simp [parts]))
 by_cases e0:M (aS false a) []
 ·exact ⟨[],.inl (.inl ⟨e0,rfl⟩)⟩
 ·by_cases e1:M (aS true a) []
  ·exact ⟨[],.inr (.inl ⟨e1,rfl⟩)⟩
  ·rw [n7] at hu
   split at hu
   ·rcases hu with hu | hu
    ·exact absurd ((ha false []).1 hu) e0
    ·exact absurd ((ha true []).1 hu) e1
   ·rcases hu with hu | hu
    ·obtain ⟨l,l',q1,q2,q3,q4,q5⟩:=N6 ((f8.congr (ha false)).1 hu)
     obtain ⟨s,hs⟩:=oR e0 l l' q1 q2 q3 (q4.trans q5.symm)
     exact ⟨s,.inl (.inr ⟨e0,hs⟩)⟩
    ·obtain ⟨l,l',q1,q2,q3,q4,q5⟩:=N6 ((f8.congr (ha true)).1 hu)
     obtain ⟨s,hs⟩:=oR e1 l l' q1 q2 q3 (q4.trans q5.symm)
     exact ⟨s,.inr (.inr ⟨e1,hs⟩)⟩
theorem SL (T:LT) (x:LT×Nat):∀ (l:List LT) (i:Nat),x∈kW T i l↔(∃ u,u∈l/\x∈bL u)\/∃ m,m<l.length/\i+m≠0/\x=(T,i+m-1)
 | [],i=>by rw [kW];simp
 | u::l,i=>by
  rw [kW,List.mem_append,List.mem_append,SL T x l (i+1)]
  constructor
  ·rintro ((h | h) | ⟨y,h1,h2⟩ | ⟨m,h1,h2,h3⟩)
   ·split at h
    ·cases h
    ·rw [List.mem_singleton] at h
     exact .inr ⟨0,by simp,by omega,by rw [h];rfl⟩
   ·exact .inl ⟨u,List.mem_cons_self,h⟩
   ·exact .inl ⟨y,List.mem_cons_of_mem _ h1,h2⟩
   ·exact .inr ⟨m+1,by rw [List.length_cons];omega,by omega,by rw [h3];congr 1;omega⟩
  ·rintro (⟨y,h1,h2⟩ | ⟨m,h1,h2,h3⟩)
   ·rcases List.mem_cons.1 h1 with rfl | h1
    ·exact .inl (.inr h2)
    ·exact .inr (.inl ⟨y,h1,h2⟩)
   ·match m,h1,h2,h3 with
    | 0,h1,h2,h3=>exact .inl (.inl (by rw [if_neg (by omega),List.mem_singleton,h3];rfl))
    | m+1,h1,h2,h3=>exact .inr (.inr ⟨m,by rw [List.length_cons] at h1;omega,by omega,by rw [h3];congr 1;omega⟩)
theorem jM (T:LT) (l:List LT) (x:LT×Nat):x∈kW T 0 l↔(∃ u,u∈l/\x∈bL u)\/∃ m,m+1<l.length/\x=(T,m):=by
 rw [SL]
 refine or_congr Iff.rfl ⟨?_,?_⟩
 ·rintro ⟨m,h1,h2,h3⟩
  match m,h1,h2,h3 with
  | 0,h1,h2,h3=>exact absurd rfl h2
  | m+1,h1,h2,h3=>exact ⟨m,h1,by rw [h3];congr 1;omega⟩
 ·rintro ⟨m,h1,h2⟩
  exact ⟨m+1,h1,by omega,by rw [h2];congr 1;omega⟩
theorem y8 {α:Type} {l:List α} {n:Nat} (h:l.length=n+1):∃ r x,l=r++[x]/\r.length=n:=by
 have hn:l≠[]:=fun e=>by rw [e] at h;cases h
 exact ⟨l.dropLast,l.getLast hn,(List.dropLast_concat_getLast hn).symm,by rw [List.length_dropLast,h];rfl⟩
theorem iR (kd:Int) (c:BT):∀ (k:Nat) (l:List LT) (ps:List Nat),l.length=k+1->ps.length=k->(c∈eD (cX kd l ps)↔(∃ u,u∈l/\c∈eD (bP u))\/∃ m t p,l[m+1]? = some t/\ps[m]? = some p/\c = .two kd p (cX kd (l.take (m+1)) (ps.take m)) (bP t))
 | 0,l,ps,h1,h2=>by
  match l,h1 with
  | [t],_=>
   rw [nA]
   constructor
   ·intro h;exact .inl ⟨t,List.mem_cons_self,h⟩
   ·rintro (⟨u,hu,h⟩ | ⟨m,t',p,h3,_⟩)
    ·rw [List.mem_singleton] at hu;rw [← hu];exact h
    ·simp at h3
 | k+1,l,ps,h1,h2=>by
  obtain ⟨r,x,rfl,hr⟩:=y8 h1
  obtain ⟨q,j,rfl,hq⟩:=y8 h2
  have ih:=iR kd c k r q hr hq
  rw [tL kd x j r q (by omega),eD,List.mem_cons,List.mem_append,ih]
  constructor
  ·rintro (h | (⟨u,hu,h⟩ | ⟨m,t,p,e1,e2,e3⟩) | h)
   ·refine .inr ⟨k,x,j,?_,?_,?_⟩
    ·rw [← hr];simp
    ·rw [← hq];simp
    ·rw [h]
     have a1:(r++[x]).take (k+1)=r:=by rw [← hr];simp
     have a2:(q++[j]).take k=q:=by rw [← hq];simp
     rw [a1,a2]
   ·exact .inl ⟨u,List.mem_append_left _ hu,h⟩
   ·have b1:=(List.getElem?_eq_some_iff.1 e1).1
    have b2:=(List.getElem?_eq_some_iff.1 e2).1
    refine .inr ⟨m,t,p,by rw [List.getElem?_append_left b1];exact e1,by rw [List.getElem?_append_left b2];exact e2,?_⟩
    rw [List.take_append_of_le_length (by omega),List.take_append_of_le_length (by omega)]
    exact e3
   ·exact .inl ⟨x,List.mem_append_right _ List.mem_cons_self,h⟩
  ·rintro (⟨u,hu,h⟩ | ⟨m,t,p,e1,e2,e3⟩)
   ·rcases List.mem_append.1 hu with hu | hu
    ·exact .inr (.inl (.inl ⟨u,hu,h⟩))
    ·rw [List.mem_singleton] at hu;rw [hu] at h;exact .inr (.inr h)
   ·by_cases e:m=k
    ·subst e
     refine .inl ?_
     have a1:(r++[x]).take (m+1)=r:=by rw [← hr];simp
     have a2:(q++[j]).take m=q:=by rw [← hq];simp
     have a3:(r++[x])[m+1]? = some x:=by rw [← hr];simp
     have a4:(q++[j])[m]? = some j:=by rw [← hq];simp
     rw [a3] at e1
     rw [a4] at e2
     rw [e3,a1,a2,← Option.some.inj e1,← Option.some.inj e2]
    ·have b1:=(List.getElem?_eq_some_iff.1 e1).1
     rw [List.length_append,List.length_singleton] at b1
     have b2:m<q.length:=by omega
     have b3:m+1<r.length:=by omega
     rw [List.getElem?_append_left b3] at e1
     rw [List.getElem?_append_left b2] at e2
     rw [List.take_append_of_le_length (by omega),List.take_append_of_le_length (by omega)] at e3
     exact .inr (.inl (.inr ⟨m,t,p,e1,e2,e3⟩))
theorem P6 {kd:Int} {l:List LT} {ps:List Nat} (h:ps.length+1=l.length) (c:BT):c∈eD (cX kd l ps)↔(∃ u,u∈l/\c∈eD (bP u))\/∃ m t p,l[m+1]? = some t/\ps[m]? = some p/\c = .two kd p (cX kd (l.take (m+1)) (ps.take m)) (bP t):=
 iR kd c ps.length l ps h.symm rfl
mutual
theorem pR:∀ (t:LT),jZ t->∀ c,c∈eD (bP t)->∀ u,n7 c u->∃ x,x∈bL t/\∃ u',pA x.1 x.2 u'
 | .same l i j,h,c,hc,u,hu=>by
  rw [bP,eD,List.mem_singleton] at hc
  subst hc
  exact hu.elim
 | .fixed l i j v d a,h,c,hc,u,hu=>by
  rw [bP,eD,List.mem_singleton] at hc
  subst hc
  exact hu.elim
 | .swap p a b,h,c,hc,u,hu=>by
  rw [bP,eD,List.mem_cons,List.mem_append] at hc
  rw [bL]
  rcases hc with rfl | hc | hc
  ·exact ⟨_,List.mem_cons_self,u,(EV h u).1 hu⟩
  ·obtain ⟨x,h1,h2⟩:=pR a (h.part (by simp [parts])) c hc u hu
   exact ⟨x,List.mem_cons_of_mem _ (List.mem_append_left _ h1),h2⟩
  ·obtain ⟨x,h1,h2⟩:=pR b (h.part (by simp [parts])) c hc u hu
   exact ⟨x,List.mem_cons_of_mem _ (List.mem_append_right _ h1),h2⟩
 | .group a,h,c,hc,u,hu=>by
  rw [bP] at hc
  rw [bL]
  exact pR a (h.part (by simp [parts])) c hc u hu
 | .many p a,h,c,hc,u,hu=>by
  rw [bP,eD,List.mem_cons] at hc
  rw [bL]
  rcases hc with rfl | hc
  ·obtain ⟨u',h1⟩:=ZV h hu
   exact ⟨_,List.mem_append_right _ List.mem_cons_self,u',h1⟩
  ·obtain ⟨x,h1,h2⟩:=pR a (h.part (by simp [parts])) c hc u hu
   exact ⟨x,List.mem_append_left _ h1,h2⟩
 | .row l ps,h,c,hc,u,hu=>by
  have h0:ps.length+1=l.length:=h.self
  rw [bP] at hc
  rw [bL]
  rcases (P6 h0 c).1 hc with ⟨y,h1,h2⟩ | ⟨m,t,p,h1,h2,h3⟩
  ·obtain ⟨x,h3,h4⟩:=zI l (fun t ht=>h.part ht) y h1 c h2 u hu
   exact ⟨x,(jM _ _ _).2 (.inl ⟨y,h1,h3⟩),h4⟩
  ·rw [h3] at hu
   exact ⟨(.row l ps,m),(jM _ _ _).2 (.inr ⟨m,(List.getElem?_eq_some_iff.1 h1).1,rfl⟩),u,(MV h h1 u).1 hu⟩
 | .choice l ps,h,c,hc,u,hu=>by
  have h0:ps.length+1=l.length:=h.self
  rw [bP] at hc
  rw [bL]
  rcases (P6 h0 c).1 hc with ⟨y,h1,h2⟩ | ⟨m,t,p,h1,h2,h3⟩
  ·obtain ⟨x,h3,h4⟩:=zI l (fun t ht=>h.part ht) y h1 c h2 u hu
   exact ⟨x,(jM _ _ _).2 (.inl ⟨y,h1,h3⟩),h4⟩
  ·rw [h3] at hu
   exact ⟨(.choice l ps,m),(jM _ _ _).2 (.inr ⟨m,(List.getElem?_eq_some_iff.1 h1).1,rfl⟩),u,(Z2 h h1 u).1 hu⟩
theorem zI:∀ (l:List LT),(∀ t,t∈l->jZ t)->∀ t,t∈l->∀ c,c∈eD (bP t)->∀ u,n7 c u->∃ x,x∈bL t/\∃ u',pA x.1 x.2 u'
 | [],h,t,ht=>by cases ht
 | x::l,h,t,ht=>by
  rcases List.mem_cons.1 ht with e | ht
  ·rw [e];exact pR x (h x List.mem_cons_self)
  ·exact zI l (fun t ht=>h t (List.mem_cons_of_mem _ ht)) t ht
end
end Go.Proofs.YtlljggefbngkeaaGreatDoor
