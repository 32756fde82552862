import Derived.Test.YtlljggefbngkeaaGreatDoorU17
import Derived.Test.YtlljggefbngkeaaGreatDoorU36
import Derived.Test.YtlljggefbngkeaaGreatDoorU11
set_option maxHeartbeats 400000
namespace Go.Proofs.YtlljggefbngkeaaGreatDoor
open Go.RowKit
theorem BF (kd:Int):∀ (l:List LT) (c:BT) (ps:List Nat),(∀ t,t∈l->fH (bP t)+1<=2*iZ t)->fH (eH kd c l ps)+1<=fH c+1+2*iG l
 | [],c,ps,_=>by rw [eH,iG];omega
 | t::l,c,ps,h=>by
  have h1:=h t List.mem_cons_self
  have h2:=BF kd l (.two kd (ps.headD 0) c (bP t)) ps.tail (fun u hu=>h u (List.mem_cons_of_mem _ hu))
  rw [eH,iG]
  rw [fH] at h2
  omega
theorem BJ (kd:Int) (l:List LT) (ps:List Nat) (h:∀ t,t∈l->fH (bP t)+1<=2*iZ t):fH (cX kd l ps)+1<=2*iG l+2:=by
 match l with
 | []=>rw [cX,fH,iG];omega
 | t::l=>
  have h1:=h t List.mem_cons_self
  have h2:=BF kd l (bP t) ps (fun u hu=>h u (List.mem_cons_of_mem _ hu))
  rw [cX,iG]
  omega
mutual
theorem tH:∀ t:LT,fH (bP t)+1<=2*iZ t
 | .same l i j=>by rw [bP,fH,iZ];omega
 | .fixed l i j v d a=>by rw [bP,fH,iZ];omega
 | .swap p a b=>by
  have h1:=tH a
  have h2:=tH b
  rw [bP,fH,iZ];omega
 | .group a=>by
  have h1:=tH a
  rw [bP,iZ];omega
 | .many p a=>by
  have h1:=tH a
  rw [bP,fH,iZ];omega
 | .row l ps=>by
  have h1:=BJ 114 l ps (u7 l)
  rw [bP,iZ];omega
 | .choice l ps=>by
  have h1:=BJ 124 l ps (u7 l)
  rw [bP,iZ];omega
theorem u7:∀ (l:List LT) (t:LT),t∈l->fH (bP t)+1<=2*iZ t
 | [],t,h=>by cases h
 | u::l,t,h=>by
  rcases List.mem_cons.1 h with e | h
  ·rw [e];exact tH u
  ·exact u7 l t h
end
theorem K0.grownz {w w':World} (h:K0 w w'):w.grownBy w' none:=⟨h.os,h.tape,h.output,h.size,fun k hk _=>h.block k hk trivial⟩
theorem Q2 (x:Int) (w:World) (h0:0<=x) (h1:x<=100):Calls Tryz.prog 18 #[.int .i64 x] w fun e w'=>e = .returned (.int .i64 x)/\w'=w:=by
 have hw:wrap64 x=x:=by unfold wrap64;omega
 go_enter Tryz.func18,Tryz.ntmps18
 go_wp2
 go_ret
 first
  | exact ⟨rfl,rfl⟩
  | exact ⟨by rw [hw],rfl⟩
theorem NA {s:ByteArray} {c:Int} {p:Nat} (h:pB s c p) (hm:s.size<=maxLen) (w:World):
  Calls Tryz.prog 28 #[.string s] w fun e w'=>e = .returned (.tuple #[.pointer none,.int .i64 c,.int .i64 (p:Int)])/\K0 w w':=by
 rcases h with ⟨hs,rfl,rfl⟩ | ⟨hs,h⟩
 ·refine (FR s w hs hm).mono ?_
  rintro e w' ⟨hk,⟨_,he⟩ | ⟨h,_⟩⟩
  ·exact ⟨he,hk⟩
  ·omega
 ·refine (zY s w hs).mono ?_
  rintro e w' ⟨hk,⟨h1,_⟩ | ⟨_,he⟩⟩
  ·omega
  ·cases hr:aV s (6*s.size+5) 0 with
   | err q=>
    rw [hr] at h he
    obtain ⟨rfl,rfl⟩:=h
    exact ⟨he,hk⟩
   | ok x j=>
    rw [hr] at h he
    rcases h with ⟨hj,rfl,rfl⟩ | ⟨hj,hF,rfl⟩
    ·rcases he with ⟨_,he⟩ | ⟨h1,_⟩
     ·exact ⟨he,hk⟩
     ·omega
    ·rcases he with ⟨h1,_⟩ | ⟨_,o,hF',he⟩
     ·omega
     ·obtain rfl:=hF.det hF'
      exact ⟨he,hk⟩
theorem B0 {s:ByteArray} {t:LT} (h:iL s t) (w:World):
  Calls Tryz.prog 28 #[.string s] w fun e w'=>(∃ g,e = .returned (.tuple #[.pointer (some ⟨g,0,none⟩),.int .i64 0,.int .i64 0])/\AF w' g (bP t))/\K0 w w':=by
 obtain ⟨hs,x,hr,hF,rfl⟩:=h
 refine (zY s w hs).mono ?_
 rintro e w' ⟨hk,⟨h1,_⟩ | ⟨_,he⟩⟩
 ·omega
 ·rw [hr] at he
  rcases he with ⟨h1,_⟩ | ⟨_,o,hF',he⟩
  ·omega
  ·obtain rfl:=hF.det hF'
   obtain ⟨g,he1,_,he2⟩:=he
   rw [oE]
   exact ⟨⟨g,he1,he2⟩,hk⟩
theorem iL.det {s:ByteArray} {t u:LT} (h:iL s t) (k:iL s u):t=u:=by
 obtain ⟨_,x,h1,_,rfl⟩:=h
 obtain ⟨_,y,h2,_,rfl⟩:=k
 rw [h1] at h2
 cases h2
 rfl
theorem iL.no_err {s:ByteArray} {t:LT} {c:Int} {p:Nat} (h:iL s t) (k:pB s c p):False:=by
 obtain ⟨hs,x,h1,h2,_⟩:=h
 rcases k with ⟨k,_⟩ | ⟨_,k⟩
 ·omega
 ·rw [h1] at k
  rcases k with ⟨k,_⟩ | ⟨_,k,_⟩
  ·omega
  ·have:=h2.det k
   cases this
end Go.Proofs.YtlljggefbngkeaaGreatDoor
