import Derived.Test.YtlljggefbngkeaaGreatDoorU46
import Derived.Test.YtlljggefbngkeaaGreatDoorU25
import Derived.Test.YtlljggefbngkeaaGreatDoorU38
import Derived.Test.YtlljggefbngkeaaGreatDoorU37
import Derived.Test.YtlljggefbngkeaaGreatDoorU17
set_option maxRecDepth 100000
set_option maxHeartbeats 3200000
namespace Go.Proofs.YtlljggefbngkeaaGreatDoor
open Go.RowKit Go.Shelf
def l8 (s:ByteArray) (c:Int):Prop:=(∃ p,pB s c p/\(c=1\/c=2\/c=3))\/(c=4/\∃ t,iL s t/\∃ x u,x∈bL t/\pA x.1 x.2 u)
def jU (s:ByteArray) (t:LT):Prop:=iL s t/\∀ x,x∈bL t->∀ u,¬ pA x.1 x.2 u
theorem pB.det {s:ByteArray} {c d:Int} {p q:Nat} (h:pB s c p) (k:pB s d q):c=d/\p=q:=by
 rcases h with ⟨h1,h2,h3⟩ | ⟨h1,h2⟩ <;> rcases k with ⟨k1,k2,k3⟩ | ⟨k1,k2⟩
 ·exact ⟨by omega,by omega⟩
 ·omega
 ·omega
 ·cases hr:aV s (6*s.size+5) 0 with
  | err r=>rw [hr] at h2 k2;exact ⟨by omega,by omega⟩
  | ok x j=>
   rw [hr] at h2 k2
   rcases h2 with ⟨a,b,c⟩ | ⟨a,b,c⟩ <;> rcases k2 with ⟨d,e,f⟩ | ⟨d,e,f⟩
   ·exact ⟨by omega,by omega⟩
   ·omega
   ·omega
   ·have:=b.det e
    injection this with this
    exact ⟨by omega,this⟩
theorem l8.nz {s:ByteArray} {c:Int} (h:l8 s c):c=1\/c=2\/c=3\/c=4:=by
 rcases h with ⟨_,_,h⟩ | ⟨h,_⟩ <;> omega
theorem l8.det {s:ByteArray} {c d:Int} (h:l8 s c) (k:l8 s d):c=d:=by
 rcases h with ⟨p,h1,h2⟩ | ⟨h1,t,h2,h3⟩ <;> rcases k with ⟨q,k1,k2⟩ | ⟨k1,t',k2,k3⟩
 ·exact (h1.det k1).1
 ·exact (k2.no_err h1).elim
 ·exact (h2.no_err k1).elim
 ·omega
theorem jU.det {s:ByteArray} {t u:LT} (h:jU s t) (k:jU s u):t=u:=h.1.det k.1
theorem l8.not {s:ByteArray} {c:Int} {t:LT} (h:l8 s c) (k:jU s t):False:=by
 rcases h with ⟨p,h1,h2⟩ | ⟨h1,t',h2,x,u,h3,h4⟩
 ·exact k.1.no_err h1
 ·obtain rfl:=h2.det k.1
  exact k.2 x h3 u h4
theorem jU.nb {s:ByteArray} {t:LT} (h:jU s t) (hb:pQ (bP t)):NB t:=by
 obtain ⟨h1,h2⟩:=o0 h.1
 exact ⟨h1,h2,hb,by have:=tH t;omega⟩
def aDX (s:ByteArray) (us:List (List UInt8)) (w:World) (e:Ending) (w':World):Prop:=
 K0 w w'/\((∃ c,l8 s c/\e = .returned (.tuple #[.pointer none,.int .i64 c]))\/(∃ t,jU s t/\(((∃ u,u∈us/\60<u.length)/\e = .returned (.tuple #[.pointer none,.int .i64 1]))\/
  ((∀ u,u∈us->u.length<=60)/\∃ b,CL (fun k=>k<w.heap.size) w' b (bP t)/\e = .returned (.tuple #[.pointer (some ⟨b,0,none⟩),.int .i64 0])))))
theorem oW (s:ByteArray) {w:World} {vb n cp:Nat} {us:List (List UInt8)} (hm:s.size<=maxLen) (cW:nU w) (hne:∀ t,jU s t->pQ (bP t)) (hown:w.ownsRow 0 9 1 (.slice (some ⟨vb,0,none⟩) n cp) us.length (cD us)) (hus:us.length<=10) (hlen:∀ u,u∈us->u.length<=maxLen):
  Calls Tryz.prog 33 #[.string s,.slice (some ⟨vb,0,none⟩) n cp] w fun e w'=>aDX s us w e w':=by
 have hn:n=us.length:=by
  rcases hown.2 with ⟨h',_⟩ | ⟨g',cap',cur,h',_⟩
  ·simp at h'
  ·injection h'
 subst hn
 have dB:vb<w.heap.size:=aJ hown vb rfl
 have HX:=aB (Y7 s w hm cW)
 have HO:=aB (And.intro hown (And.intro hne hlen))
 clear cW hown hne hlen
 go_enter Tryz.func33,Tryz.ntmps33
 go_wp2_with fail
 refine (aA HX).mono ?_
 rintro e w1 ⟨hg1,(⟨c,p,h1,hc,rfl⟩ | ⟨t,h1,(⟨t',k,p,u,q1,q2,q3,q4,rfl⟩ | ⟨q,g,hL,rfl⟩)⟩)⟩
 ·have q3:(c != 0)=true:=by rw [bne_iff_ne];omega
  have H1:=aB (And.intro h1 (And.intro hc hg1))
  clear h1 hg1 hc
  go_wp2
  go_ret2
  exact ⟨K0.of_grownz (aA H1).2.2,.inl ⟨c,.inl ⟨p,(aA H1).1,(aA H1).2.1⟩,rfl⟩⟩
 ·have H1:=aB (And.intro h1 (And.intro (show ∃ x u,x∈bL t/\pA x.1 x.2 u from ⟨(t',k),u,q1,q3⟩) hg1))
  clear h1 q1 q2 q3 q4 hg1
  go_wp2
  go_ret2
  exact ⟨K0.of_grownz (aA H1).2.2,.inl ⟨4,.inr ⟨rfl,t,(aA H1).1,(aA H1).2.1⟩,rfl⟩⟩
 ·have aY:=K0.of_grownz hg1
  have hG:jU s t:=⟨h1,q⟩
  have HG:=aB (And.intro hG aY)
  have HN:=aB (fun (V:World) (hk:K0 w1 V)=>KO s (iZ t) t (Nat.le_refl _) (hG.nb ((aA HO).2.1 t hG)) V _ g (LR.kept (fun k dS _=>hk.heap dS) hL) (fun k h=>by have:=aY.size;have:=hk.size;omega))
  clear h1 q hg1 hL aY hG
  go_wp2_with fail
  go_loopg [24] (us.length+2) (fun gk v24 wv=>∃ (k:Nat),v24 = .int .i64 (k:Int)/\k<=us.length/\us.length-k<gk/\(∀ u,u∈us.take k->u.length<=60)/\wv=w1)
  case atStart=>exact ⟨0,rfl,Nat.zero_le _,by omega,fun u h=>(by simp at h),rfl⟩
  case round=>
   obtain ⟨k,rfl,hk,fW,hall,rfl⟩:=hrel
   have hw9:IntKind.i64.wrap ((k:Int)+1)=(k:Int)+1:=IntWalk.i64_in _ (by omega)
   by_cases hlt:k<us.length
   ·have hd:(k:Int)<(us.length:Int):=by omega
    obtain ⟨u,hu⟩:∃ u,us[k]? = some u:=⟨_,List.getElem?_eq_getElem hlt⟩
    have ck:wr.cell? ⟨vb,k,none⟩=some (.string (aE u)):=by
     refine (aA HG).2.cellz (a:=⟨vb,k,none⟩) ?_
     rw [(aA HO).1.cellAt k (by omega)]
     simp [cD,hu]
    have hsz:(aE u).size=u.length:=aO u
    have fF:=(aA HO).2.2 u (List.mem_of_getElem? hu)
    unfold maxLen at fF
    by_cases pT:60<u.length
    ·have CZ:(60:Int)<((aE u).size:Int):=by rw [hsz];omega
     have HU:=aB (List.mem_of_getElem? hu)
     have HA:=aB pT
     clear hall hu hsz pT
     go_wp2
     go_ret2
     exact ⟨(aA HG).2,.inr ⟨t,(aA HG).1,.inl ⟨⟨u,aA HU,aA HA⟩,rfl⟩⟩⟩
    ·have CZ:¬ (60:Int)<((aE u).size:Int):=by rw [hsz];omega
     have HA:=aB (And.intro hall (And.intro hu pT))
     clear hall hu hsz pT
     go_wp2_with fail
     go_roundg (gk-1)
     case measure=>omega
     case rel=>
      obtain ⟨hall,hu,pT⟩:=aA HA
      refine ⟨k+1,by go_num,by omega,by omega,fun u' h'=>?_,rfl⟩
      rw [pU hu] at h'
      rcases List.mem_append.1 h' with h' | h'
      ·exact hall u' h'
      ·rw [List.mem_singleton] at h'
       rw [h']
       omega
   ·have hd:¬ (k:Int)<(us.length:Int):=by omega
    obtain rfl:k=us.length:=by omega
    rw [List.take_length] at hall
    have HA:=aB hall
    clear hall
    go_wp2_with fail
    refine (aA HN _ (K0.refl _)).mono ?_
    rintro e w2 ⟨b,rfl,rN,hk2⟩
    have H2:=aB (And.intro rN hk2)
    clear rN hk2
    go_wp2
    go_ret2
    exact ⟨(aA HG).2.trans (aA H2).2,.inr ⟨t,(aA HG).1,.inr ⟨aA HA,b,(aA H2).1,rfl⟩⟩⟩
theorem pZ (m:Int) (hm:m=0\/m=1\/m=2) (w:World):Calls Tryz.prog 35 #[.int .i64 m] w fun e w'=>e = .returned (.int .i64 (if m=0 then 0 else m+4))/\w'=w:=by
 rcases hm with rfl | rfl | rfl
 ·go_enter Tryz.func35,Tryz.ntmps35
  go_wp2
  go_ret
  exact ⟨rfl,rfl⟩
 ·go_enter Tryz.func35,Tryz.ntmps35
  go_wp2
  go_ret
  exact ⟨rfl,rfl⟩
 ·go_enter Tryz.func35,Tryz.ntmps35
  go_wp2
  go_ret
  exact ⟨rfl,rfl⟩
def sOk:LT->Prop
 | .fixed _ _ _ v d _=>v.length<=120/\d.length<=120
 | _=>True
def rP (t:LT):Prop:=∀ u,u∈subs t->sOk u
theorem rP.part {t u:LT} (h:rP t) (hu:u∈parts t):rP u:=fun x hx=>h x (by rw [gK];exact List.mem_cons_of_mem _ (mJ _ u x hu hx))
theorem rP.self {t:LT} (h:rP t):sOk t:=h t (by rw [gK];exact List.mem_cons_self)
theorem rP.of {t:LT} (h0:sOk t) (h:∀ u,u∈parts t->rP u):rP t:=fun x hx=>by
 rw [gK] at hx
 rcases List.mem_cons.1 hx with rfl | hx
 ·exact h0
 ·obtain ⟨u,h1,h2⟩:=wO _ _ hx
  exact h u h1 x h2
theorem rP.joinRow {l:List LT} (ps:List Nat) (h:∀ u,u∈l->rP u):rP (joinRow l ps):=by
 match l,h with
 | [],h=>exact rP.of trivial (fun u hu=>h u hu)
 | [t],h=>exact h t List.mem_cons_self
 | t::u::l,h=>exact rP.of trivial (fun u hu=>h u hu)
theorem rP.joinAlt {l:List LT} (ps:List Nat) (h:∀ u,u∈l->rP u):rP (joinAlt l ps):=by
 match l,h with
 | [],h=>exact rP.of trivial (fun u hu=>h u hu)
 | [t],h=>exact h t List.mem_cons_self
 | t::u::l,h=>exact rP.of trivial (fun u hu=>h u hu)
theorem X9 {s:ByteArray} (hs:s.size<=120) {n i:Nat} {t:LT} {j:Nat} (h:eY s n i = .ok t j):rP t:=by
 unfold eY at h
 cases hg:cI s n (i+1) with
 | err p=>rw [hg] at h;cases h
 | ok l k=>
  rw [hg] at h
  simp only [cN.bind] at h
  split at h
  ·split at h
   ·cases hq:bN s (aF s (k+1)) with
    | err p=>rw [hq] at h;cases h
    | ok v k1=>
     rw [hq] at h
     simp only at h
     cases cH:bN s (aF s k1) with
     | err p=>rw [cH] at h;cases h
     | ok d m=>
      rw [cH] at h
      cases h
      exact rP.of ⟨by have:=(iA hq).2.2.1;omega,by have:=(iA cH).2.2.1;omega⟩ (fun u hu=>absurd hu (List.not_mem_nil))
   ·cases h
    exact rP.of trivial (fun u hu=>absurd hu (List.not_mem_nil))
  ·cases h
theorem DK (s:ByteArray) (hs:s.size<=120):∀ n,(∀ i t j,bX s n i = .ok t j->rP t)/\(∀ i t j,dT s n i = .ok t j->rP t)/\
  (∀ i x j,bI s n i = .ok x j->∀ u,u∈x.1->rP u)/\(∀ i x j,aV s n i = .ok x j->∀ u,u∈x.1->rP u)
 | 0=>⟨fun i t j h=>(by rw [bX] at h;cases h),fun i l j h=>(by rw [dT] at h;cases h),fun i l j h=>(by rw [bI] at h;cases h),fun i l j h=>(by rw [aV] at h;cases h)⟩
 | n+1=>by
  obtain ⟨k1,k2,k3,k4⟩:=DK s hs n
  refine ⟨fun i t j h=>?_,fun i t j h=>?_,fun i t j h=>?_,fun i t j h=>?_⟩
  ·rw [bX] at h
   split at h
   ·exact X9 hs h
   ·split at h
    ·split at h
     ·cases hq:aV s n (aF s (i+1)+1) with
      | err p=>rw [hq] at h;cases h
      | ok a j1=>
       rw [hq] at h
       simp only [cN.bind] at h
       have h1:=k4 _ _ _ hq
       split at h
       ·cases cH:aV s n (j1+1) with
        | err p=>rw [cH] at h;cases h
        | ok b k=>
         rw [cH] at h
         simp only at h
         have h3:=k4 _ _ _ cH
         split at h
         ·cases h
          refine rP.of trivial (fun u hu=>?_)
          rw [parts] at hu
          rcases List.mem_cons.1 hu with rfl | hu
          ·exact rP.joinAlt _ h1
          ·rw [List.mem_singleton] at hu
           subst hu
           exact rP.joinAlt _ h3
         ·cases h
       ·cases h
     ·cases h
    ·split at h
     ·cases hq:aV s n (i+1) with
      | err p=>rw [hq] at h;cases h
      | ok a j1=>
       rw [hq] at h
       simp only [cN.bind] at h
       have h1:=k4 _ _ _ hq
       split at h
       ·cases h
        refine rP.of trivial (fun u hu=>?_)
        rw [parts,List.mem_singleton] at hu
        subst hu
        exact rP.joinAlt _ h1
       ·cases h
     ·cases h
  ·rw [dT] at h
   cases hq:bX s n i with
   | err p=>rw [hq] at h;cases h
   | ok a j1=>
    rw [hq] at h
    simp only [cN.bind] at h
    have h1:=k1 _ _ _ hq
    split at h
    ·cases h
     refine rP.of trivial (fun u hu=>?_)
     rw [parts,List.mem_singleton] at hu
     subst hu
     exact h1
    ·cases h
     exact h1
  ·rw [bI] at h
   cases hq:dT s n i with
   | err p=>rw [hq] at h;cases h
   | ok a j1=>
    rw [hq] at h
    simp only [cN.bind] at h
    have h1:=k2 _ _ _ hq
    split at h
    ·cases cH:bI s n j1 with
     | err p=>rw [cH] at h;cases h
     | ok b k=>
      rw [cH] at h
      have h3:=k3 _ _ _ cH
      cases h
      intro u hu
      rcases List.mem_cons.1 hu with rfl | hu
      ·exact h1
      ·exact h3 u hu
    ·cases h
     intro u hu
     rw [List.mem_singleton] at hu
     subst hu
     exact h1
  ·rw [aV] at h
   cases hq:bI s n (aF s i) with
   | err p=>rw [hq] at h;cases h
   | ok a j1=>
    rw [hq] at h
    simp only [cN.bind] at h
    have h1:=k3 _ _ _ hq
    split at h
    ·cases cH:aV s n (j1+1) with
     | err p=>rw [cH] at h;cases h
     | ok b k=>
      rw [cH] at h
      have h3:=k4 _ _ _ cH
      cases h
      intro u hu
      rcases List.mem_cons.1 hu with rfl | hu
      ·exact rP.joinRow _ h1
      ·exact h3 u hu
    ·cases h
     intro u hu
     rw [List.mem_singleton] at hu
     subst hu
     exact rP.joinRow _ h1
def bSh:BT->Prop
 | .pat _=>True
 | .key _ v d=>v.length<=120/\d.length<=120
 | .two kd _ a b=>(kd=114\/kd=124\/kd=126)/\bSh a/\bSh b
 | .star _ a=>bSh a
theorem s8:∀ c:BT,bSh c->NoW c->pQ c
 | .pat t,_,_=>trivial
 | .key t v d,h,_=>h
 | .two kd p a b,h,hw=>⟨h.1,s8 a h.2.1 (fun c hc=>hw c (by rw [eD];exact List.mem_cons_of_mem _ (List.mem_append_left _ hc))),s8 b h.2.2 (fun c hc=>hw c (by rw [eD];exact List.mem_cons_of_mem _ (List.mem_append_right _ hc)))⟩
 | .star p a,h,hw=>by
  have h0:=hw (.star p a) (kT _) []
  rw [n7,if_pos rfl] at h0
  exact ⟨fun e=>h0 (.inl e),fun e=>h0 (.inr e),s8 a h (fun c hc=>hw c (by rw [eD];exact List.mem_cons_of_mem _ hc))⟩
mutual
theorem uZ:∀ t:LT,rP t->bSh (bP t)
 | .same l i j,_=>by rw [bP];trivial
 | .fixed l i j v d a,h=>by rw [bP];exact h.self
 | .swap p a b,h=>by rw [bP];exact ⟨.inr (.inr rfl),uZ a (h.part (by simp [parts])),uZ b (h.part (by simp [parts]))⟩
 | .group a,h=>by rw [bP];exact uZ a (h.part (by simp [parts]))
 | .many p a,h=>by rw [bP];exact uZ a (h.part (by simp [parts]))
 | .row l ps,h=>by rw [bP];exact KF (.inl rfl) l ps (fun u hu=>h.part hu)
 | .choice l ps,h=>by rw [bP];exact KF (.inr (.inl rfl)) l ps (fun u hu=>h.part hu)
theorem KF {kd:Int} (hk:kd=114\/kd=124\/kd=126):∀ (l:List LT) (ps:List Nat),(∀ u,u∈l->rP u)->bSh (cX kd l ps)
 | [],ps,_=>by rw [cX];trivial
 | t::l,ps,h=>by rw [cX];exact KE hk l (bP t) ps (uZ t (h t List.mem_cons_self)) (fun u hu=>h u (List.mem_cons_of_mem _ hu))
theorem KE {kd:Int} (hk:kd=114\/kd=124\/kd=126):∀ (l:List LT) (c:BT) (ps:List Nat),bSh c->(∀ u,u∈l->rP u)->bSh (eH kd c l ps)
 | [],c,ps,hc,_=>by rw [eH];exact hc
 | t::l,c,ps,hc,h=>by rw [eH];exact KE hk l _ ps.tail ⟨hk,hc,uZ t (h t List.mem_cons_self)⟩ (fun u hu=>h u (List.mem_cons_of_mem _ hu))
end
theorem jU.noW {s:ByteArray} {t:LT} (h:jU s t):NoW (bP t):=fun c hc u hu=>by
 obtain ⟨x,hx,u',hu'⟩:=pR t (o0 h.1).1 c hc u hu
 exact h.2 x hx u' hu'
theorem jU.ne {s:ByteArray} {t:LT} (h:jU s t):pQ (bP t):=by
 refine s8 _ (uZ t ?_) h.noW
 obtain ⟨hs,x,hr,_,rfl⟩:=h.1
 exact rP.joinAlt _ ((DK s hs _).2.2.2 _ _ _ hr)
theorem jU.bz {s:ByteArray} {t:LT} (h:jU s t):fH (bP t)<=800:=(h.nb h.ne).bz
def aDU (s:ByteArray) (u r:List UInt8) (c:Int):Prop:=(l8 s c/\r=[])\/∃ t,jU s t/\((60<u.length/\r=[]/\c=1)\/(u.length<=60/\M (bS (bP t)) u/\r=dA (bP t) u/\c=0)\/(u.length<=60/\¬ M (bS (bP t)) u/\r=[]/\c=5))
theorem aDU.rng {s:ByteArray} {u r:List UInt8} {c:Int} (h:aDU s u r c):0<=c/\c<=6:=by
 rcases h with ⟨h,_⟩ | ⟨t,_,⟨_,_,h⟩ | ⟨_,_,_,h⟩ | ⟨_,_,_,h⟩⟩
 ·have:=h.nz;omega
 ·omega
 ·omega
 ·omega
theorem nU.k0 {w w':World} (h:nU w) (hk:K0 w w'):nU w':=fun j hj=>hk.cellz (h j hj)
theorem uN:aE []=(⟨#[]⟩:ByteArray):=rfl
theorem wL (d:ByteArray):aE d.data.toList=d:=by simp [aE]
theorem kU (d:ByteArray):d.data.toList.length=d.size:=BA d
def aB9 (s:ByteArray) (w:World) (e:Ending) (w':World):Prop:=
 K0 w w'/\((∃ (c:Int) (gv:Option Addr),l8 s c/\e = .returned (.tuple #[.pointer gv,.int .i64 c,.bool true]))\/
  (∃ t g,jU s t/\AF w' g (bP t)/\e = .returned (.tuple #[.pointer (some ⟨g,0,none⟩),.int .i64 0,.bool true])))
theorem oX (s:ByteArray) (w:World) (hm:s.size<=maxLen) (cW:nU w):
  Calls Tryz.prog 12 #[.string s] w fun e w'=>aB9 s w e w':=by
 have HR:=aB (IX s w hm cW)
 go_enter Tryz.func12,Tryz.ntmps12
 go_wp2_with fail
 refine (aA HR).mono ?_
 rintro e w1 ⟨hg1,(⟨c,p,h1,hc,rfl⟩ | ⟨t,h1,(⟨t',n,p,u,q1,q2,q3,q4,rfl⟩ | ⟨q,rfl⟩)⟩)⟩
 ·have HQ:=aB (NA h1 hm w1)
  have HN:=aB (fun W=>Q2 c W (by omega) (by omega))
  have q1:(c==c)=true:=by simp
  have q2:(((p:Nat):Int)==((p:Nat):Int))=true:=by simp
  have q3:(c != 0)=true:=by rw [bne_iff_ne];omega
  have H1:=aB (And.intro (And.intro h1 hc) hg1)
  clear h1 hg1 hc HR cW
  go_wp2_with fail
  refine (aA HQ).mono ?_
  rintro e w2 ⟨rfl,hk2⟩
  go_wp2_with fail
  refine (aA HN _).mono ?_
  rintro e w3 ⟨rfl,rfl⟩
  go_wp2
  go_ret3
  exact ⟨(K0.of_grownz (aA H1).2).trans hk2,.inl ⟨c,none,.inl ⟨p,(aA H1).1.1,(aA H1).1.2⟩,rfl⟩⟩
 ·have HQ:=aB (B0 h1 w1)
  have HN:=aB (fun W=>Q2 4 W (by omega) (by omega))
  have H1:=aB (And.intro h1 (And.intro (show ∃ x u,x∈bL t/\pA x.1 x.2 u from ⟨(t',n),u,q1,q3⟩) hg1))
  clear h1 q1 q2 q3 q4 hg1 HR cW
  go_wp2_with fail
  refine (aA HQ).mono ?_
  rintro e w2 ⟨⟨g,rfl,hG⟩,hk2⟩
  have H2:=aB (And.intro hG hk2)
  clear hG hk2
  go_wp2_with fail
  refine (aA HN _).mono ?_
  rintro e w3 ⟨rfl,rfl⟩
  go_wp2
  go_ret3
  obtain ⟨a1,a2,a3⟩:=aA H1
  obtain ⟨b1,b2⟩:=aA H2
  exact ⟨(K0.of_grownz a3).trans b2,.inl ⟨4,some ⟨g,0,none⟩,.inr ⟨rfl,t,a1,a2⟩,rfl⟩⟩
 ·have HQ:=aB (B0 h1 w1)
  have HN:=aB (fun W=>Q2 0 W (by omega) (by omega))
  have H1:=aB (And.intro h1 (And.intro q hg1))
  clear h1 q hg1 HR cW
  go_wp2_with fail
  refine (aA HQ).mono ?_
  rintro e w2 ⟨⟨g,rfl,hG⟩,hk2⟩
  have H2:=aB (And.intro hG hk2)
  clear hG hk2
  go_wp2_with fail
  refine (aA HN _).mono ?_
  rintro e w3 ⟨rfl,rfl⟩
  go_wp2_with fail
  refine (aA HN _).mono ?_
  rintro e w3 ⟨rfl,rfl⟩
  go_wp2
  go_ret3
  obtain ⟨a1,a2,a3⟩:=aA H1
  obtain ⟨b1,b2⟩:=aA H2
  exact ⟨(K0.of_grownz a3).trans b2,.inr ⟨t,g,⟨a1,a2⟩,b1,rfl⟩⟩
end Go.Proofs.YtlljggefbngkeaaGreatDoor
