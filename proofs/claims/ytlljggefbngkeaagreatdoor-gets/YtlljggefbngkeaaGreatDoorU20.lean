import Derived.Test.YtlljggefbngkeaaGreatDoorU19
import Derived.Test.YtlljggefbngkeaaGreatDoorU18
import Derived.Shelf.Abstract
import Derived.Shelf.RegionOpen
import Derived.OwnWalkIn
import Derived.TacticsInMore
import Derived.LoopNIn
import Derived.LoopIn
import Derived.Test.YtlljggefbngkeaaGreatDoorU16
import Derived.Test.YtlljggefbngkeaaGreatDoorU14
import Derived.Deep.RegionHeld3
set_option maxRecDepth 100000
set_option maxHeartbeats 3200000
namespace Go.Proofs.YtlljggefbngkeaaGreatDoor
open Go.RowKit Go.Shelf
attribute [local go_sem] Oper.semAt_some
theorem cF {k:Nat}:Fence.wide.depth.isSome=true->1<=k:=fun h=>by cases h
theorem RB (k:Nat):Fence.wide.room k:=fun d h=>by cases h
theorem RoundIn.anyD {m m':Nat} {P:Program} {l:Nat} {f:FuncId} {tmps:Array Value} {assign body:Code} {w:World} {R:Ending->World->Prop}
  (h:RoundIn Fence.wide m P l f tmps assign body w R):RoundIn Fence.wide m' P l f tmps assign body w R:=⟨h.1,fun c cs _=>h.2 c cs (RB _)⟩
theorem YieldAt.anyD {m:Nat} (m':Nat) {P:Program} {l:Nat} {args:Array Value} {W:World} {R:Ending->World->Prop} (h:YieldAt Fence.wide m P l args W R):YieldAt Fence.wide m' P l args W R:=by
 obtain ⟨fn,tmps,assign,body,hy,hR⟩:=h
 exact ⟨fn,tmps,assign,body,hy,RoundIn.anyD hR⟩
theorem Below.of_kf {N:Nat} {fp:World->Nat->Prop} {A A':World} (h:Kf fp A A') (hN:N<=A.heap.size) (K3:∀ k,fp A k->N<=k):Below N A A' :=
 ⟨h.os,h.tape,h.output,h.size,fun k hk=>h.block k (by omega) (fun hf=>by have:=K3 k hf;omega)⟩
def parts:LT->List LT
 | .same _ _ _=>[]
 | .fixed _ _ _ _ _ _=>[]
 | .swap _ a b=>[a,b]
 | .group a=>[a]
 | .many _ a=>[a]
 | .row l _=>l
 | .choice l _=>l
mutual
def subs:LT->List LT
 | .same l i j=>[.same l i j]
 | .fixed l i j v d a=>[.fixed l i j v d a]
 | .swap at_ a b => .swap at_ a b::(subs a++subs b)
 | .group a => .group a::subs a
 | .many at_ a => .many at_ a::subs a
 | .row l ps => .row l ps::dE l
 | .choice l ps => .choice l ps::dE l
def dE:List LT->List LT
 | []=>[]
 | t::l=>subs t++dE l
end
theorem gK (t:LT):subs t=t::dE (parts t):=by
 cases t <;> simp [subs,parts,dE]
theorem vA:∀ (l:List LT) (t:LT),dE (l++[t])=dE l++subs t
 | [],t=>by rw [List.nil_append,dE,dE];simp [dE]
 | u::l,t=>by rw [List.cons_append,dE,dE,vA l t,List.append_assoc]
theorem EZ (l:List LT) (k:Nat):∃ r,dE (l.take k)++r=dE l:=by
 have key:∀ (a b:List LT),dE (a++b)=dE a++dE b:=by
  intro a b
  induction a with
  | nil=>simp [dE]
  | cons t a ih=>rw [List.cons_append,dE,dE,ih,List.append_assoc]
 exact ⟨dE (l.drop k),by rw [← key,List.take_append_drop]⟩
theorem LR.parts {s:ByteArray} {w:World} {Y:Nat->Prop} {t:LT} {g:Nat} (h:LR s w Y t g):∃ v gs,w.cell? ⟨g,1,none⟩=some v/\w.ownsRow 0 54 1 v gs.length (bD gs)/\eN s w Y (parts t) gs/\g<w.heap.size:=by
 cases t with
 | same l i j=>
  rw [LR] at h
  obtain ⟨_,p,h1,_⟩:=h
  exact ⟨_,[],by rw [aC h1 1];rfl,World.ownsRow_nil _ _ _ _,by rw [YtlljggefbngkeaaGreatDoor.parts,eN];trivial,aD h1⟩
 | fixed l i j v d a=>
  rw [LR] at h
  obtain ⟨_,p,h1,_⟩:=h
  exact ⟨_,[],by rw [aC h1 1];rfl,World.ownsRow_nil _ _ _ _,by rw [YtlljggefbngkeaaGreatDoor.parts,eN];trivial,aD h1⟩
 | swap at_ a b=>
  rw [LR] at h
  obtain ⟨_,v,jv,ga,gb,h1,h2,_,h4,h5⟩:=h
  exact ⟨v,[ga,gb],by rw [aC h1 1];rfl,h2.1,by rw [YtlljggefbngkeaaGreatDoor.parts,eN,eN,eN];exact ⟨h4,h5,trivial⟩,aD h1⟩
 | group a=>
  rw [LR] at h
  obtain ⟨_,v,ga,h1,h2,h4⟩:=h
  exact ⟨v,[ga],by rw [aC h1 1];rfl,h2.1,by rw [YtlljggefbngkeaaGreatDoor.parts,eN,eN];exact ⟨h4,trivial⟩,aD h1⟩
 | many at_ a=>
  rw [LR] at h
  obtain ⟨_,v,jv,ga,h1,h2,_,h4⟩:=h
  exact ⟨v,[ga],by rw [aC h1 1];rfl,h2.1,by rw [YtlljggefbngkeaaGreatDoor.parts,eN,eN];exact ⟨h4,trivial⟩,aD h1⟩
 | row l ps=>
  rw [LR] at h
  obtain ⟨_,v,jv,gs,h1,h2,_,h4⟩:=h
  exact ⟨v,gs,by rw [aC h1 1];rfl,h2.1,h4,aD h1⟩
 | choice l ps=>
  rw [LR] at h
  obtain ⟨_,v,jv,gs,h1,h2,_,h4⟩:=h
  exact ⟨v,gs,by rw [aC h1 1];rfl,h2.1,h4,aD h1⟩
theorem R9 (s:ByteArray) (sep:List UInt8):∀ (l:List LT) (u:LT),u∈l->(form s u).length<=(lY s sep l).length
 | [],u,h=>absurd h (List.not_mem_nil)
 | t::l,u,h=>by
  rw [lY]
  simp only [List.length_append]
  rcases List.mem_cons.1 h with rfl | h
  ·omega
  ·have:=R9 s sep l u h
   omega
theorem S4 (s:ByteArray) (sep:List UInt8) (l:List LT) (u:LT) (h:u∈l):(form s u).length<=(eR s sep l).length:=by
 cases l with
 | nil=>exact absurd h (List.not_mem_nil)
 | cons t l=>
  rw [eR]
  simp only [List.length_append]
  rcases List.mem_cons.1 h with rfl | h
  ·omega
  ·have:=R9 s sep l u h
   omega
theorem IL (s:ByteArray) (t u:LT) (h:u∈parts t):(form s u).length<=(form s t).length:=by
 cases t with
 | same l i j=>exact absurd h (List.not_mem_nil)
 | fixed l i j v d a=>exact absurd h (List.not_mem_nil)
 | swap at_ a b=>
  rw [parts] at h
  rw [form]
  simp only [List.length_append]
  rcases List.mem_cons.1 h with rfl | h
  ·omega
  ·rw [List.mem_singleton] at h
   subst h
   omega
 | group a=>
  rw [parts,List.mem_singleton] at h
  subst h
  rw [form]
  simp only [List.length_append,List.length_cons]
  omega
 | many at_ a=>
  rw [parts,List.mem_singleton] at h
  subst h
  rw [form]
  simp only [List.length_append]
  omega
 | row l ps=>rw [form];exact S4 s _ l u h
 | choice l ps=>rw [form];exact S4 s _ l u h
def aAS (x:Nat×LT):Array Value := #[.pointer (some ⟨x.1,0,none⟩)]
def VQ (w0:World) (J Jx:List (Nat×LT)->World->Prop) (pre:List (Nat×LT)) (ss:List LT) (e:Ending) (W':World):Prop:=
 (∃ xs,e = .returned (.bool true)/\xs.map Prod.snd=ss/\J (pre++xs) W'/\Below w0.heap.size w0 W')\/(∃ q r,e = .returned (.bool false)/\q.map Prod.snd++r=ss/\Jx (pre++q) W')
def xT (G:LT->Prop) (s:ByteArray) (w0:World) (Y:Nat->Prop) (l:Nat) (J Jx:List (Nat×LT)->World->Prop) (t:LT):Prop:=
 ∀ (n g:Nat) (pre:List (Nat×LT)) (W:World),LR s w0 Y t g->G t->Below w0.heap.size w0 W->J pre W->
  CallsIn Fence.wide n Tryz.prog 128 #[.pointer (some ⟨g,0,none⟩),.func (.yield l) #[] #[]] W fun e W'=>VQ w0 J Jx pre (subs t) e W'
def zJ (G:LT->Prop) (s:ByteArray) (w0:World) (Y:Nat->Prop) (l:Nat) (J Jx:List (Nat×LT)->World->Prop):Prop:=
 ∀ m pre x W,J pre W->LR s w0 Y x.2 x.1/\G x.2->YieldAt Fence.wide m Tryz.prog l (aAS x) W fun e W' =>
  (e = .returned (.bool true)/\J (pre++[x]) W'/\Below w0.heap.size W W')\/(e = .returned (.bool false)/\Jx (pre++[x]) W')
theorem nI {G:LT->Prop} (hG:∀ t u,G t->u∈parts t->G u) {s:ByteArray} {w0:World} {Y:Nat->Prop} {l:Nat} {J Jx:List (Nat×LT)->World->Prop} (hY:zJ G s w0 Y l J Jx) (t:LT) (hp:∀ u,u∈parts t->xT G s w0 Y l J Jx u):xT G s w0 Y l J Jx t:=by
 intro n g pre W hR dG hB hJ
 obtain ⟨v,gs,c1,hv,hT,eC⟩:=hR.parts
 have aET:=qF hv
 obtain ⟨ao,cp,rfl⟩:=aG hv
 have hlen:=hT.len
 obtain ⟨fn,tmps,assign,body,hy,j7⟩:=hY (n-1) pre (g,t) W hJ ⟨hR,dG⟩
 have H0:=aB (And.intro hv (And.intro hT (And.intro hp (And.intro hlen (And.intro c1 hB)))))
 rw [gK]
 dsimp only [aAS] at hy
 clear hv hT hp hlen hR hJ hB c1
 refine callsIn_of_wp Tryz.func128 rfl trivial ?_ rfl
 simp only [Tryz.ntmps128,List.size_toArray,List.length_cons,List.length_nil,Nat.reduceAdd,Nat.reduceSub,Array.replicate_succ,Array.replicate_zero,List.push_toArray,List.append_toArray,List.nil_append,List.cons_append]
 gi_wp2
 refine ⟨cF,?_⟩
 refine j7.mono ?_
 rintro e W1 (⟨rfl,hJ1,hb1⟩ | ⟨rfl,hx1⟩)
 ·have mN:=(aA H0).2.2.2.2.2.trans hb1
  have d1:W1.cell? ⟨g,1,none⟩=some (.slice ao gs.length cp):=by
   rw [World.cell?_of_block (w:=w0) (w':=W1) (a:=⟨g,1,none⟩) (mN.block g eC)]
   exact (aA H0).2.2.2.2.1
  have H1:=aB (And.intro hJ1 mN)
  clear hJ1 hb1 mN
  gi_wp2
  gi_loopw [16] (fun iv wr=>∃ (k:Nat) (xs:List (Nat×LT)),iv = .int .i64 (k:Int)/\k<=gs.length/\xs.map Prod.snd=t::dE ((parts t).take k)/\J (pre++xs) wr/\Below w0.heap.size w0 wr) (fun iv _=>gs.length-(Lib.intOf iv).toNat)
  case atStart=>exact ⟨0,[(g,t)],rfl,Nat.zero_le _,by rw [List.take_zero,dE];rfl,(aA H1).1,(aA H1).2⟩
  case round=>
   obtain ⟨k,xs,rfl,hk,qX,vV,tR⟩:=hrel
   have HI:=aB (And.intro qX (And.intro vV tR))
   clear qX vV tR
   by_cases hlt:k<gs.length
   ·have hd:(k:Int)<(gs.length:Int):=by omega
    obtain ⟨hv,hT,hp,hlen,_,_⟩:=aA H0
    obtain ⟨vb,cap,fM,_,dB⟩:=hv.form (by omega)
    injection fM with hao _ nY
    subst hao
    subst nY
    obtain ⟨u,gu,EH,TH,hu3⟩:=eN.at hT k (by omega)
    have ck:wr.cell? ⟨vb,k,none⟩=some (.pointer (some ⟨gu,0,none⟩)):=by
     have h1:=hv.cellAt k (by omega)
     rw [World.cell?_of_block (w:=w0) (w':=wr) (a:=⟨vb,k,none⟩) ((aA HI).2.2.block vb dB),h1]
     simp [bD,TH]
    have kB:(parts t).take (k+1)=(parts t).take k++[u]:=by rw [List.take_add_one,EH];rfl
    have HW:=aB (hp u (List.mem_of_getElem? EH) (n-1) gu (pre++xs) wr hu3 (hG t u dG (List.mem_of_getElem? EH)) (aA HI).2.2 (aA HI).2.1)
    have Ht:=aB (And.intro kB (List.mem_of_getElem? EH))
    clear hv hT hp hlen EH TH hu3 kB d1
    gi_wp2_with fail
    refine ⟨trivial,cF,?_⟩
    refine (aA HW).mono ?_
    rintro e W3 (⟨ys,rfl,hys,hJ3,K6⟩ | ⟨q,r,rfl,hq,hx3⟩)
    ·gi_wp2_with fail
     go_roundw
     case rel=>
      refine ⟨k+1,xs++ys,by simp,by omega,?_,by rw [← List.append_assoc];exact hJ3,K6⟩
      rw [(aA Ht).1,vA,List.map_append,(aA HI).1,hys]
      rfl
     case measure=>simp [Lib.intOf];omega
    ·gi_wp2
     go_ret
     obtain ⟨r2,hr2⟩:=EZ (parts t) (k+1)
     refine .inr ⟨xs++q,r++r2,rfl,?_,by rw [← List.append_assoc];exact hx3⟩
     rw [← hr2,(aA Ht).1,vA,← hq,List.map_append,(aA HI).1]
     simp only [List.append_assoc,List.cons_append]
   ·have hd:decide ((k:Int)<(gs.length:Int))=false:=by simp;omega
    have L7:(parts t).take k=parts t:=List.take_of_length_le (by have:=(aA H0).2.2.2.1;omega)
    have HK:=aB L7
    clear L7
    gi_wp2
    go_ret
    obtain ⟨qX,vV,tR⟩:=aA HI
    rw [aA HK] at qX
    exact .inl ⟨xs,rfl,qX,vV,tR⟩
 ·gi_wp2
  go_ret
  exact .inr ⟨[(g,t)],dE (parts t),rfl,by simp,hx1⟩
mutual
theorem Q0 {G:LT->Prop} (hG:∀ t u,G t->u∈parts t->G u) {s:ByteArray} {w0:World} {Y:Nat->Prop} {l:Nat} {J Jx:List (Nat×LT)->World->Prop} (hY:zJ G s w0 Y l J Jx):∀ t,xT G s w0 Y l J Jx t
 | .same br i j=>nI hG hY _ (fun u hu=>by simp [parts] at hu)
 | .fixed br i j v d a=>nI hG hY _ (fun u hu=>by simp [parts] at hu)
 | .swap at_ a b=>by
  have ia:=Q0 hG hY a
  have ib:=Q0 hG hY b
  refine nI hG hY _ (fun u hu=>?_)
  rw [parts] at hu
  rcases List.mem_cons.1 hu with rfl | hu
  ·exact ia
  ·rw [List.mem_singleton] at hu
   subst hu
   exact ib
 | .group a=>by
  have ia:=Q0 hG hY a
  refine nI hG hY _ (fun u hu=>?_)
  rw [parts,List.mem_singleton] at hu
  subst hu
  exact ia
 | .many at_ a=>by
  have ia:=Q0 hG hY a
  refine nI hG hY _ (fun u hu=>?_)
  rw [parts,List.mem_singleton] at hu
  subst hu
  exact ia
 | .row ts ps=>by
  have il:=GA hG hY ts
  exact nI hG hY _ (fun u hu=>il u hu)
 | .choice ts ps=>by
  have il:=GA hG hY ts
  exact nI hG hY _ (fun u hu=>il u hu)
theorem GA {G:LT->Prop} (hG:∀ t u,G t->u∈parts t->G u) {s:ByteArray} {w0:World} {Y:Nat->Prop} {l:Nat} {J Jx:List (Nat×LT)->World->Prop} (hY:zJ G s w0 Y l J Jx):∀ (ts:List LT) (t:LT),t∈ts->xT G s w0 Y l J Jx t
 | [],t,h=>absurd h (List.not_mem_nil)
 | u::ts,t,h=>by
  have iu:=Q0 hG hY u
  have il:=GA hG hY ts
  rcases List.mem_cons.1 h with rfl | h
  ·exact iu
  ·exact il t h
end
theorem aGK (n g:Nat) (w:World):CallsIn Fence.wide n Tryz.prog 82 #[.pointer (some ⟨g,0,none⟩)] w fun e w' =>
  e = .returned (.func (.func 127) #[] #[.pointer (some ⟨w.heap.size,0,none⟩)])/\w'=w.alloc (.cells #[.pointer (some ⟨g,0,none⟩)] 54):=by
 refine callsIn_of_wp Tryz.func82 rfl trivial ?_ rfl
 simp only [Tryz.ntmps82,List.size_toArray,List.length_cons,List.length_nil,Nat.reduceAdd,Nat.reduceSub,Array.replicate_succ,Array.replicate_zero,List.push_toArray,List.append_toArray,List.nil_append,List.cons_append]
 gi_wp2
 go_ret
 exact ⟨rfl,rfl⟩
theorem TA {G:LT->Prop} (hG:∀ t u,G t->u∈parts t->G u) {s:ByteArray} {w0 w:World} {Y:Nat->Prop} {t:LT} {g Bl n:Nat} {fp:World->Nat->Prop} (K3:∀ A k,fp A k->w0.heap.size<=k) (hR:LR s w0 Y t g) (dG:G t) (hB:Below w0.heap.size w0 w) (hc:w.heap[Bl]? = some (.cells #[.pointer (some ⟨g,0,none⟩)] 54 (0,0))):
  JD Fence.wide n Tryz.prog 127 #[.pointer (some ⟨Bl,0,none⟩)] aAS fp false (fun _ x=>LR s w0 Y x.2 x.1/\G x.2) (fun xs=>xs.map Prod.snd=subs t) (fun pre=>∃ r,pre.map Prod.snd++r=subs t) w:=by
 intro l J Jx W hW hJs pC _ hY h0
 have nQ:Below w0.heap.size w0 W:=⟨hW.os.trans hB.os,hW.tape.trans hB.tape,hW.output.trans hB.output,Nat.le_trans hB.size hW.size,fun k hk=>(hW.block k (Nat.lt_of_lt_of_le hk hB.size) (by simp)).trans (hB.block k hk)⟩
 have hcW:=(hW.block Bl (aD hc) (by simp)).trans hc
 have c0:=aC hcW 0
 simp at c0
 have HW:=aB (Q0 hG (s:=s) (w0:=w0) (Y:=Y) (l:=l) (J:=fun pre A=>J pre A/\w0.heap.size<=A.heap.size) (Jx:=Jx) (fun m pre x A hj hx=>YieldAt.anyD m (YieldAt.mono (hY pre x A hj.1 hx) (fun e A' h=>h.imp (fun ⟨h1,h2,h3⟩=>⟨h1,⟨h2,Nat.le_trans hj.2 h3.size⟩,Below.of_kf h3 hj.2 (K3 A)⟩) id))) t (n-1) g [] W hR dG nQ ⟨h0,nQ.size⟩)
 clear hJs pC hY h0 hW hR hB hc hcW
 refine callsIn_of_wp Tryz.func127 rfl trivial ?_ rfl
 simp only [Tryz.ntmps127,List.size_toArray,List.length_cons,List.length_nil,Nat.reduceAdd,Nat.reduceSub,Array.replicate_succ,Array.replicate_zero,List.push_toArray,List.append_toArray,List.nil_append,List.cons_append]
 gi_wp2_with fail
 refine ⟨trivial,cF,?_⟩
 refine (aA HW).mono ?_
 rintro e W1 (⟨xs,rfl,hx,hJ,_⟩ | ⟨q,r,rfl,hq,hx⟩)
 ·gi_wp2
  go_end0
  exact ⟨⟨_,rfl⟩,.inl ⟨xs,hx,by simpa using hJ.1⟩⟩
 ·gi_wp2
  go_end0
  exact ⟨⟨_,rfl⟩,.inr ⟨q,⟨r,hq⟩,by simpa using hx⟩⟩
end Go.Proofs.YtlljggefbngkeaaGreatDoor
namespace Go.Proofs.YtlljggefbngkeaaGreatDoor
open Go.RowKit
mutual
def aP:PT->Nat
 | .chr _=>1
 | .seq l=>aR l+1
 | .alt l=>aR l+1
 | .rep _ t=>aP t+1
def aR:List PT->Nat
 | []=>0
 | t::l=>aP t+aR l
end
theorem rX:∀ l:List PT,l.length<=aR l
 | []=>by rw [aR];exact Nat.le_refl _
 | t::l=>by
  rw [aR,List.length_cons]
  have h1:=rX l
  have h2:1<=aP t:=by cases t <;> rw [aP] <;> omega
  omega
mutual
theorem fL:∀ (t:PT) (S:List cA) (to:Nat),(bJ t S to).1.length<=S.length+aP t
 | .chr l,S,to=>by rw [bJ,aP];simp
 | .seq l,S,to=>by rw [bJ,aP];have:=B7 l S to;omega
 | .alt l,S,to=>by rw [bJ,aP];simp only [List.length_append,List.length_singleton];have:=xC l S to;omega
 | .rep c t,S,to=>by
  rw [bJ,aP]
  split
  ·show (List.set _ _ _).length<=_
   rw [List.length_set]
   have:=fL t (S++[⟨[],0,[]⟩]) S.length
   simp only [List.length_append,List.length_singleton] at this
   omega
  ·simp only [List.length_append,List.length_singleton]
   have:=fL t S to
   omega
theorem B7:∀ (l:List PT) (S:List cA) (to:Nat),(fY l S to).1.length<=S.length+aR l
 | [],S,to=>by rw [fY,aR];exact Nat.le_refl _
 | t::l,S,to=>by rw [fY,aR];have:=fL t (fY l S to).1 (fY l S to).2;have:=B7 l S to;omega
theorem xC:∀ (l:List PT) (S:List cA) (to:Nat),(eK l S to).1.length<=S.length+aR l
 | [],S,to=>by rw [eK,aR];exact Nat.le_refl _
 | t::l,S,to=>by rw [eK,aR];have:=xC l (bJ t S to).1 to;have:=fL t S to;simp only;omega
end
theorem oG (t:PT):aR [t]=aP t:=by rw [aR,aR];omega
theorem kJ (l:List PT):aP (gM l)<=aR l+1:=by
 match l with
 | []=>rw [gM,aP];exact Nat.le_refl _;intro t h;cases h
 | [t]=>rw [gM,oG];omega
 | t::u::l=>rw [gM,aP];exact Nat.le_refl _;intro t h;cases h
theorem yM (l:List PT):aP (rF l)<=aR l+1:=by
 match l with
 | []=>rw [rF,aP];exact Nat.le_refl _;intro t h;cases h
 | [t]=>rw [rF,oG];omega
 | t::u::l=>rw [rF,aP];exact Nat.le_refl _;intro t h;cases h
mutual
theorem xA:∀ t,aP (nf t)<=aP t
 | .chr l=>by rw [nf];exact Nat.le_refl _
 | .seq l=>by rw [nf,aP];have:=kJ (uP l);have:=B6 l;omega
 | .alt l=>by rw [nf,aP];have:=yM (uP l);have:=B6 l;omega
 | .rep c t=>by rw [nf,aP,aP];have:=xA t;omega
theorem B6:∀ l,aR (uP l)<=aR l
 | []=>by rw [uP];exact Nat.le_refl _
 | t::l=>by rw [uP,aR,aR];have:=xA t;have:=B6 l;omega
end
theorem qE {l:List PT} (h:bO l):aX (gM l):=by
 match l,h with
 | [],h=>rw [gM,aX];exact h;intro t e;cases e
 | [t],h=>rw [gM];rw [bO] at h;exact h.1
 | t::u::l,h=>rw [gM,aX];exact h;intro t e;cases e
theorem U9 {l:List PT} (h:bO l):aX (rF l):=by
 match l,h with
 | [],h=>rw [rF,aX];exact h;intro t e;cases e
 | [t],h=>rw [rF];rw [bO] at h;exact h.1
 | t::u::l,h=>rw [rF,aX];exact h;intro t e;cases e
mutual
theorem BZ:∀ t,aX t->aX (nf t)
 | .chr l,h=>by rw [nf];exact h
 | .seq l,h=>by rw [aX] at h;rw [nf];exact qE (FW l h)
 | .alt l,h=>by rw [aX] at h;rw [nf];exact U9 (FW l h)
 | .rep c t,h=>by rw [aX] at h;rw [nf,aX];exact ⟨h.1,BZ t h.2⟩
theorem FW:∀ l,bO l->bO (uP l)
 | [],h=>by rw [uP];exact h
 | t::l,h=>by rw [bO] at h;rw [uP,bO];exact ⟨BZ t h.1,FW l h.2⟩
end
theorem OL (s:ByteArray) (t:PT) (j:Nat):aP (gZ s t j).1+3*j<=aP t+3*(gZ s t j).2:=by
 unfold gZ
 split
 ·show aP (.rep _ t)+3*j<=_
  rw [aP]
  show _<=aP t+3*(j+1)
  omega
 ·exact Nat.le_refl _
theorem IG (s:ByteArray):∀ n,(∀ i t j,dX s n i = .ok t j->aP t+3*i<=3*j)/\(∀ i l j,bU s n i = .ok l j->aR l+3*i<=3*j)/\(∀ i l j,cI s n i = .ok l j->aR l+3*i<=3*j+1)
 | 0=>⟨fun i t j h=>(by rw [dX] at h;cases h),fun i l j h=>(by rw [bU] at h;cases h),fun i l j h=>(by rw [cI] at h;cases h)⟩
 | n+1=>by
  obtain ⟨h1,h2,h3⟩:=IG s n
  refine ⟨fun i t j h=>?_,fun i l j h=>?_,fun i l j h=>?_⟩
  ·rw [dX] at h
   split at h
   ·cases hg:cQ s n (i+1) [] with
    | err p=>rw [hg] at h;cases h
    | ok l j' =>
     rw [hg] at h
     cases h
     have:=tU s n _ _ _ _ hg
     rw [aP]
     omega
   ·split at h
    ·cases hg:cI s n (i+1) with
     | err p=>rw [hg] at h;cases h
     | ok l j' =>
      rw [hg] at h
      have:=h3 _ _ _ hg
      simp only [cN.bind] at h
      split at h
      ·cases h;rw [aP];omega
      ·cases h
    ·split at h
     ·cases h;rw [aP];omega
     ·cases h
  ·rw [bU] at h
   split at h
   ·cases hg:dX s n i with
    | err p=>rw [hg] at h;cases h
    | ok t j' =>
     rw [hg] at h
     simp only [cN.bind] at h
     cases hb:bU s n (gZ s t j').2 with
     | err p=>rw [hb] at h;cases h
     | ok l' j'' =>
      rw [hb] at h
      cases h
      have:=h1 _ _ _ hg
      have:=h2 _ _ _ hb
      have:=OL s t j'
      rw [aR]
      omega
   ·cases h;rw [aR];omega
  ·rw [cI] at h
   cases hg:bU s n i with
   | err p=>rw [hg] at h;cases h
   | ok l' j' =>
    rw [hg] at h
    have:=h2 _ _ _ hg
    simp only [cN.bind] at h
    split at h
    ·cases hb:cI s n (j'+1) with
     | err p=>rw [hb] at h;cases h
     | ok l' j'' =>
      rw [hb] at h
      cases h
      have:=h3 _ _ _ hb
      rw [aR,aP]
      omega
    ·cases h;rw [oG,aP];omega
def pOk:LT->Prop
 | .fixed l _ _ _ _ _=>bO l/\aR l<=400
 | _=>True
def rQ (t:LT):Prop:=∀ u,u∈subs t->pOk u
theorem mJ:∀ (l:List LT) (t u:LT),t∈l->u∈subs t->u∈dE l
 | [],t,u,h,_=>absurd h (List.not_mem_nil)
 | x::l,t,u,h,hu=>by
  rw [dE,List.mem_append]
  rcases List.mem_cons.1 h with rfl | h
  ·exact .inl hu
  ·exact .inr (mJ l t u h hu)
theorem wO:∀ (l:List LT) (u:LT),u∈dE l->∃ t,t∈l/\u∈subs t
 | [],u,h=>by rw [dE] at h;exact absurd h (List.not_mem_nil)
 | x::l,u,h=>by
  rw [dE,List.mem_append] at h
  rcases h with h | h
  ·exact ⟨x,List.mem_cons_self,h⟩
  ·obtain ⟨t,h1,h2⟩:=wO l u h
   exact ⟨t,List.mem_cons_of_mem _ h1,h2⟩
theorem rQ.part {t u:LT} (h:rQ t) (hu:u∈parts t):rQ u:=fun x hx=>h x (by rw [gK];exact List.mem_cons_of_mem _ (mJ _ u x hu hx))
theorem rQ.self {t:LT} (h:rQ t):pOk t:=h t (by rw [gK];exact List.mem_cons_self)
theorem rQ.of {t:LT} (h0:pOk t) (h:∀ u,u∈parts t->rQ u):rQ t:=fun x hx=>by
 rw [gK] at hx
 rcases List.mem_cons.1 hx with rfl | hx
 ·exact h0
 ·obtain ⟨u,h1,h2⟩:=wO _ _ hx
  exact h u h1 x h2
theorem rQ.joinRow {l:List LT} (ps:List Nat) (h:∀ u,u∈l->rQ u):rQ (joinRow l ps):=by
 match l,h with
 | [],h=>exact rQ.of trivial (fun u hu=>h u hu)
 | [t],h=>exact h t List.mem_cons_self
 | t::u::l,h=>exact rQ.of trivial (fun u hu=>h u hu)
theorem rQ.joinAlt {l:List LT} (ps:List Nat) (h:∀ u,u∈l->rQ u):rQ (joinAlt l ps):=by
 match l,h with
 | [],h=>exact rQ.of trivial (fun u hu=>h u hu)
 | [t],h=>exact h t List.mem_cons_self
 | t::u::l,h=>exact rQ.of trivial (fun u hu=>h u hu)
theorem ON {s:ByteArray} (hs:s.size<=120) {n i:Nat} {t:LT} {j:Nat} (h:eY s n i = .ok t j):rQ t:=by
 unfold eY at h
 cases hg:cI s n (i+1) with
 | err p=>rw [hg] at h;cases h
 | ok l k=>
  rw [hg] at h
  simp only [cN.bind] at h
  split at h
  ·rename_i rO
   have hk:k<s.size:=bY (by rw [rO];decide)
   have hsz:=(IG s n).2.2 _ _ _ hg
   have gG:=(sU s hs n _ _ _ hg).2
   split at h
   ·cases hq:bN s (aF s (k+1)) with
    | err p=>rw [hq] at h;cases h
    | ok v k1=>
     rw [hq] at h
     simp only at h
     cases cH:bN s (aF s k1) with
     | err p=>rw [cH] at h;cases h
     | ok d m=>
      rw [cH] at h
      cases h
      exact rQ.of ⟨gG,by omega⟩ (fun u hu=>absurd hu (List.not_mem_nil))
   ·cases h
    exact rQ.of trivial (fun u hu=>absurd hu (List.not_mem_nil))
  ·cases h
theorem aBM (s:ByteArray) (hs:s.size<=120):∀ n,(∀ i t j,bX s n i = .ok t j->rQ t)/\(∀ i t j,dT s n i = .ok t j->rQ t)/\
  (∀ i x j,bI s n i = .ok x j->∀ u,u∈x.1->rQ u)/\(∀ i x j,aV s n i = .ok x j->∀ u,u∈x.1->rQ u)
 | 0=>⟨fun i t j h=>(by rw [bX] at h;cases h),fun i l j h=>(by rw [dT] at h;cases h),fun i l j h=>(by rw [bI] at h;cases h),fun i l j h=>(by rw [aV] at h;cases h)⟩
 | n+1=>by
  obtain ⟨k1,k2,k3,k4⟩:=aBM s hs n
  refine ⟨fun i t j h=>?_,fun i t j h=>?_,fun i t j h=>?_,fun i t j h=>?_⟩
  ·rw [bX] at h
   split at h
   ·exact ON hs h
   ·split at h
    ·split at h
     ·cases hq:aV s n (aF s (i+1)+1) with
      | err p=>rw [hq] at h;cases h
      | ok a j1=>
       rw [hq] at h
       simp only [cN.bind] at h
       have h1:=k4 _ _ _ hq
       split at h
       ·cases cH:aV s n (j1+1) with
        | err p=>rw [cH] at h;cases h
        | ok b k=>
         rw [cH] at h
         simp only at h
         have h3:=k4 _ _ _ cH
         split at h
         ·cases h
          refine rQ.of trivial (fun u hu=>?_)
          rw [parts] at hu
          rcases List.mem_cons.1 hu with rfl | hu
          ·exact rQ.joinAlt _ h1
          ·rw [List.mem_singleton] at hu
           subst hu
           exact rQ.joinAlt _ h3
         ·cases h
       ·cases h
     ·cases h
    ·split at h
     ·cases hq:aV s n (i+1) with
      | err p=>rw [hq] at h;cases h
      | ok a j1=>
       rw [hq] at h
       simp only [cN.bind] at h
       have h1:=k4 _ _ _ hq
       split at h
       ·cases h
        refine rQ.of trivial (fun u hu=>?_)
        rw [parts,List.mem_singleton] at hu
        subst hu
        exact rQ.joinAlt _ h1
       ·cases h
     ·cases h
  ·rw [dT] at h
   cases hq:bX s n i with
   | err p=>rw [hq] at h;cases h
   | ok a j1=>
    rw [hq] at h
    simp only [cN.bind] at h
    have h1:=k1 _ _ _ hq
    split at h
    ·cases h
     refine rQ.of trivial (fun u hu=>?_)
     rw [parts,List.mem_singleton] at hu
     subst hu
     exact h1
    ·cases h
     exact h1
  ·rw [bI] at h
   cases hq:dT s n i with
   | err p=>rw [hq] at h;cases h
   | ok a j1=>
    rw [hq] at h
    simp only [cN.bind] at h
    have h1:=k2 _ _ _ hq
    split at h
    ·cases cH:bI s n j1 with
     | err p=>rw [cH] at h;cases h
     | ok b k=>
      rw [cH] at h
      have h3:=k3 _ _ _ cH
      cases h
      intro u hu
      rcases List.mem_cons.1 hu with rfl | hu
      ·exact h1
      ·exact h3 u hu
    ·cases h
     intro u hu
     rw [List.mem_singleton] at hu
     subst hu
     exact h1
  ·rw [aV] at h
   cases hq:bI s n (aF s i) with
   | err p=>rw [hq] at h;cases h
   | ok a j1=>
    rw [hq] at h
    simp only [cN.bind] at h
    have h1:=k3 _ _ _ hq
    split at h
    ·cases cH:aV s n (j1+1) with
     | err p=>rw [cH] at h;cases h
     | ok b k=>
      rw [cH] at h
      have h3:=k4 _ _ _ cH
      cases h
      intro u hu
      rcases List.mem_cons.1 hu with rfl | hu
      ·exact rQ.joinRow _ h1
      ·exact h3 u hu
    ·cases h
     intro u hu
     rw [List.mem_singleton] at hu
     subst hu
     exact rQ.joinRow _ h1
def jT (w0:World) (b:Nat) (t:PT):Prop:=
 ∀ (w:World) (Y:Nat->Prop) (S:List cA) (to st en p:Nat),TR w0 (fun _=>False) t p->(∀ k,k<w0.heap.size->Y k)->Below w0.heap.size w0 w->(∀ k,Y k->k<w.heap.size)->MH w Y b S st en->S.length+aP t<=50000->
  Calls Tryz.prog 141 #[.pointer (some ⟨b,0,none⟩),.pointer (some ⟨p,0,none⟩),.int .i64 (to:Int)] w fun e w'=>e = .returned (.int .i64 ((bJ t S to).2:Int))/\MH w' Y b (bJ t S to).1 st en/\Kp Y w w'
theorem nT {w0 w:World} (h:Below w0.heap.size w0 w) {p:Nat} {x:Obj} (hp:w0.heap[p]? = some x):w.heap[p]? = some x:=(h.block p (aD hp)).trans hp
theorem SG {w0:World} {b:Nat} (l:List UInt8):jT w0 b (.chr l):=by
 intro w Y S to st en p hT vP hB hY hM hlen
 rw [TR] at hT
 obtain ⟨_,n,sJ,hp⟩:=hT
 rw [aP] at hlen
 have eI:=nT hB hp
 have hpl:=aD eI
 have k0:∀ o o',((w.alloc o).alloc o').cell? ⟨p,0,none⟩=some (.int .i64 0):=fun o o'=>by rw [World.cell?_alloc_past _ _ _ (by simp;omega),World.cell?_alloc_past _ _ _ hpl,aC eI 0];rfl
 have k1:∀ o o',((w.alloc o).alloc o').cell? ⟨p,1,none⟩=some (.int .u64 (n:Int)):=fun o o'=>by rw [World.cell?_alloc_past _ _ _ (by simp;omega),World.cell?_alloc_past _ _ _ hpl,aC eI 1];rfl
 have HA:=aB (JL ⟨l,to,[]⟩ n (.slice none 0 0) sJ ((hM.alloc (.cells #[.pointer (some ⟨b,0,none⟩)] 120)).alloc (.cells #[.int .i64 (to:Int)] 3)).drew (by omega) (World.ownsRow_nil _ _ _ _) (fun k hk=>by cases hk) (fun k hk=>by have:=hY k hk;simp;omega))
 rw [bJ]
 clear hp eI hM sJ hB
 go_enter Tryz.func141,Tryz.ntmps141
 go_wp2_with fail
 go_region_law (go_simp;go_at_call 140;refine (aA HA).mono ?_;rintro e w1 ⟨rfl,pS,cO⟩)
 all_goals
  go_wp2
  go_ret
  exact ⟨rfl,pS,(((Kp.alloc Y w _).trans (Kp.alloc Y _ _)).trans (Kp.drew Y _)).trans cO⟩
theorem yS:∀ (l:List PT) (t:PT) (S:List cA) (to:Nat),eK (l++[t]) S to=((bJ t (eK l S to).1 to).1,(eK l S to).2++[(bJ t (eK l S to).1 to).2])
 | [],t,S,to=>by rw [List.nil_append,eK,eK,eK];simp
 | u::l,t,S,to=>by rw [List.cons_append,eK,yS l t,eK];simp
theorem dN.at {w:World} {Y:Nat->Prop}:∀ {l:List PT} {gs:List Nat},dN w Y l gs->∀ k,k<l.length->∃ t g,l[k]? = some t/\gs[k]? = some g/\TR w Y t g
 | [],[],_,k,hk=>absurd hk (Nat.not_lt_zero _)
 | t::l,g::gs,h,0,_=>by rw [dN] at h;exact ⟨t,g,rfl,rfl,h.1⟩
 | t::l,g::gs,h,k+1,hk=>by
  rw [dN] at h
  obtain ⟨t',g',h1,h2,h3⟩:=dN.at h.2 k (by simpa using hk)
  exact ⟨t',g',by simpa using h1,by simpa using h2,h3⟩
 | [],k::ks,h,_,_=>by simp [dN] at h
 | t::l,[],h,_,_=>by simp [dN] at h
theorem gV:∀ (l:List PT) (k:Nat),aR (l.take k)<=aR l
 | [],k=>by simp
 | t::l,0=>by rw [List.take_zero,aR];omega
 | t::l,k+1=>by rw [List.take_succ_cons,aR,aR];have:=gV l k;omega
theorem wP:∀ (l:List PT) (t:PT),aR (l++[t])=aR l+aP t
 | [],t=>by rw [List.nil_append,oG,aR];omega
 | u::l,t=>by rw [List.cons_append,aR,aR,wP l t];omega
theorem wQ:∀ (l:List PT) (k:Nat),aR (l.drop k)<=aR l
 | [],k=>by simp
 | t::l,0=>by simp
 | t::l,k+1=>by rw [List.drop_succ_cons,aR];have:=wQ l k;omega
theorem MH.far {w:World} {Y:Nat->Prop} {b:Nat} {S:List cA} {st en:Nat} (h:MH w Y b S st en):MH w (fun k=>Y k\/w.heap.size<=k) b S st en:=h.reY (fun k hk hz=>hz.elim id (fun h=>by omega))
def YL (Y:Nat->Prop) (w:World) (v:Value) (k:Nat):Prop:=Y k\/k=w.heap.size\/k=w.heap.size+1\/v.ownBlock=some k
def WX (w:World) (Y:Nat->Prop) (b:Nat) (S:List cA) (to st en:Nat) (l:List PT) (gk:Nat) (fv iv:Value) (wv:World):Prop:=
 ∃ k:Nat,iv = .int .i64 (k:Int)/\k<=l.length/\l.length-k<gk/\MH wv (YL Y w fv) b (eK (l.take k) S to).1 st en/\wv.ownsRow 0 3 1 fv k (cG (eK (l.take k) S to).2)/\
  (∀ j,fv.ownBlock=some j->w.heap.size+2<=j)/\Kp Y w wv/\wv.heap[w.heap.size]? = some (.cells #[.pointer (some ⟨b,0,none⟩)] 120 (0,0))/\wv.heap[w.heap.size+1]? = some (.cells #[.int .i64 (to:Int)] 3 (0,0))
theorem SH {w0:World} {b:Nat} (l:List PT) (ih:∀ t,t∈l->jT w0 b t):jT w0 b (.alt l):=by
 intro w Y S to st en p hT vP hB hY hM hlen
 obtain ⟨i2,GU,wD,nL,xX⟩:=info_parts Tryz.infoInt
 rw [TR] at hT
 obtain ⟨_,v,gs,hp,hv,oO⟩:=hT
 rw [aP] at hlen
 have rA:=oO.len
 have hmx:=qF hv.1
 obtain ⟨ao,cp,rfl⟩:=aG hv.1
 have eI:=nT hB hp
 have hpl:=aD eI
 have k0:∀ o o',((w.alloc o).alloc o').cell? ⟨p,0,none⟩=some (.int .i64 2):=fun o o'=>by rw [World.cell?_alloc_past _ _ _ (by simp;omega),World.cell?_alloc_past _ _ _ hpl,aC eI 0];rfl
 have k2:∀ o o',((w.alloc o).alloc o').cell? ⟨p,2,none⟩=some (.slice ao gs.length cp):=fun o o'=>by rw [World.cell?_alloc_past _ _ _ (by simp;omega),World.cell?_alloc_past _ _ _ hpl,aC eI 2];rfl
 have H0:Hid (WX w Y b S to st en l (l.length+1) (.slice none 0 0) (.int .i64 0) ((w.alloc (.cells #[.pointer (some ⟨b,0,none⟩)] 120)).alloc (.cells #[.int .i64 (to:Int)] 3))):=by
  refine ⟨0,rfl,Nat.zero_le _,by omega,?_,by rw [List.take_zero,eK];exact World.ownsRow_nil _ _ _ _,(by intro j hj;cases hj),(Kp.alloc Y w _).trans (Kp.alloc Y _ _),heap_alloc_old _ (heap_alloc_new w _),bC w _ _⟩
  rw [List.take_zero,eK]
  refine MH.reY ((hM.far.alloc _).alloc _) (fun k _ hz=>?_)
  rcases hz with hz | hz | hz | hz
  ·exact .inl hz
  ·exact .inr (by omega)
  ·exact .inr (by omega)
  ·cases hz
 have HT:=aB (And.intro hv (And.intro oO (And.intro ih (And.intro hB (And.intro vP rA)))))
 clear hp eI hM hB hv oO ih rA
 rw [bJ]
 go_enter Tryz.func141,Tryz.ntmps141
 go_wp2_with fail
 go_loopg [9,49] (l.length+1) (fun gk fv iv wv=>WX w Y b S to st en l gk fv iv wv)
 case atStart=>exact aA H0
 case round=>
  clear H0
  obtain ⟨k,rfl,hk,fW,hMk,XL,hfn,LG,hb1,hb2⟩:=hrel
  obtain ⟨aj,cj,rfl⟩:=aG XL
  have hsz:=xC (l.take k) S to
  have hst:=gV l k
  have e1:wr.cell? ⟨w.heap.size,0,none⟩=some (.pointer (some ⟨b,0,none⟩)):=by rw [aC hb1 0];rfl
  have e2:wr.cell? ⟨w.heap.size+1,0,none⟩=some (.int .i64 (to:Int)):=by rw [aC hb2 0];rfl
  have hKs:=LG.size
  have HI:=aB (And.intro hMk (And.intro XL (And.intro hfn (And.intro LG (And.intro hb1 hb2)))))
  clear hMk XL LG hb1 hb2
  by_cases hlt:k<l.length
  ·obtain ⟨hv,oO,ih,hB,vP,rA⟩:=aA HT
   have hd:(k:Int)<(gs.length:Int):=by omega
   have hkg:k<gs.length:=by omega
   obtain ⟨vb,cap,fM,_,dB⟩:=hv.1.form (by omega)
   injection fM with hao _ nY
   subst hao
   subst nY
   obtain ⟨t,gt,CJ,ht2,ht3⟩:=dN.at oO k hlt
   have QB:Below w0.heap.size w0 wr:=by
    have LG:=(aA HI).2.2.2.1
    exact ⟨LG.os.trans hB.os,LG.tape.trans hB.tape,LG.output.trans hB.output,Nat.le_trans hB.size LG.size,fun j hj=>(LG.block j (Nat.lt_of_lt_of_le hj hB.size) (vP j hj)).trans (hB.block j hj)⟩
   have ck:wr.cell? ⟨vb,k,none⟩=some (.pointer (some ⟨gt,0,none⟩)):=by
    have h1:=hv.1.cellAt k (by omega)
    rw [World.cell?_of_block (w:=w0) (w':=wr) (a:=⟨vb,k,none⟩) (QB.block vb dB),h1]
    simp [bD,ht2]
   have kB:l.take (k+1)=l.take k++[t]:=by rw [List.take_add_one,CJ];rfl
   have aGS:=gV l (k+1)
   rw [kB,wP] at aGS
   have sO:∀ j,YL Y w (.slice aj k cj) j->j<wr.heap.size:=by
    intro j hj
    rcases hj with hj | hj | hj | hj
    ·have:=hY j hj;omega
    ·have:=aD (aA HI).2.2.2.2.1;omega
    ·have:=aD (aA HI).2.2.2.2.2;omega
    ·exact aJ (aA HI).2.1 j hj
   have HC:=aB (ih t (List.mem_of_getElem? CJ) wr (YL Y w (.slice aj k cj)) (eK (l.take k) S to).1 to st en gt ht3 (fun j hj => .inl (vP j hj)) QB sO (aA HI).1 (by omega))
   have Ht:=aB (And.intro kB (And.intro rA sO))
   clear hv oO ih hB vP CJ ht2 ht3 kB QB rA sO
   go_wp2_with fail
   refine (aA HC).mono ?_
   rintro e w3 ⟨rfl,j9,hK3⟩
   have dW:w3.ownsRow 0 3 1 (.slice aj k cj) k (cG (eK (l.take k) S to).2):=aI (aA HI).2.1 (fun j e=>hK3.block j (aJ (aA HI).2.1 j e) (.inr (.inr (.inr e))))
   have H3:=aB (And.intro j9 hK3)
   have aI5:k<=50000:=by have:=rX l;omega
   clear j9 hK3 HC
   go_wp2_with (at_builtin;refine wpList_append_lies _ rfl (.tmp 53) (.tmp 58) 80 rfl 0 3 i2 _ 1 8 Tryz.underlying80 GU wD nL xX rfl (by decide) (.slice aj k cj) k (cG (eK (l.take k) S to).2) rfl (dW.alloc _) ⟨w3.heap.size,0,none⟩ 1 1 [.int .i64 ((bJ t (eK (l.take k) S to).1 to).2:Int)] rfl rfl (World.news_of_block (cs := #[.int .i64 ((bJ t (eK (l.take k) S to).1 to).2:Int)]) (heap_alloc_new w3 _)) (by simp [Value.oneCell']) (by omega) (by unfold maxLen;omega) (by omega) (by omega) (w3.heap.size+1) (by simp) ?_)
   intro g5 cap5 w5 bB aL bW gH
   go_wp2_with fail
   go_roundg (l.length-k)
   case measure=>exact fW
   case rel=>
    obtain ⟨hMk,XL,hfn,LG,hb1,hb2⟩:=aA HI
    obtain ⟨j9,hK3⟩:=aA H3
    obtain ⟨kB,rA,sO⟩:=aA Ht
    have hob:∀ j,(Value.slice (some ⟨g5,0,none⟩) (k+1) cap5).ownBlock=some j↔g5=j:=fun j=>by simp [Value.ownBlock]
    have ha3:∀ o:Obj,(w3.alloc o).heap.size=w3.heap.size+1:=fun o=>by simp
    have aFX:=hK3.size
    have old:∀ j,j<w3.heap.size->(Value.slice aj k cj).ownBlock≠some j->w5.heap[j]? = w3.heap[j]? := fun j hj hne=>by
     rw [aL.block j (by rw [ha3];omega) (Ne.symm hne)]
     exact Below.heap_alloc _ _ _ hj
    have CP:g5=w3.heap.size+1\/w.heap.size+2<=g5/\YL Y w (.slice aj k cj) g5:=by
     rcases bW with h | h
     ·exact .inr ⟨hfn g5 h,.inr (.inr (.inr h))⟩
     ·exact .inl h
    have hfs:∀ j,YL Y w (.slice aj k cj) j->j<w3.heap.size:=fun j hj=>Nat.lt_of_lt_of_le (sO j hj) aFX
    have aFK:=(hK3.block _ (aD hb1) (.inr (.inl rfl))).trans hb1
    have aCQ:=(hK3.block _ (aD hb2) (.inr (.inr (.inl rfl)))).trans hb2
    have hnb:∀ j,j<w.heap.size+2->(Value.slice aj k cj).ownBlock≠some j:=fun j hj e=>by have:=hfn j e;omega
    refine ⟨k+1,by simp,by omega,by omega,?_,?_,?_,?_,(old _ (aD aFK) (hnb _ (by omega))).trans aFK,(old _ (aD aCQ) (hnb _ (by omega))).trans aCQ⟩
    ·rw [kB,yS]
     have h1:MH w5 (fun j=>YL Y w (.slice aj k cj) j\/w3.heap.size<=j) b (bJ t (eK (l.take k) S to).1 to).1 st en:=
      MH.kept j9.far (fun j hj hz=>old j hj (fun e=>hz (.inl (.inr (.inr (.inr e))))))
     refine MH.reY h1 (fun j _ hz=>?_)
     rcases hz with hz | hz | hz | hz
     ·exact .inl (.inl hz)
     ·exact .inl (.inr (.inl hz))
     ·exact .inl (.inr (.inr (.inl hz)))
     ·have:=(hob j).1 hz
      subst this
      rcases CP with h | h
      ·exact .inr (by omega)
      ·exact .inl h.2
    ·rw [kB,yS]
     simpa [cG] using bB
    ·intro j hj
     have:=(hob j).1 hj
     subst this
     rcases CP with h | h
     ·have:=aD aCQ;omega
     ·exact h.1
    ·refine ((LG.trans (Kp.mono hK3 (fun j _ hj => .inl hj))).trans (Kp.alloc Y w3 _)).trans (Kp.of_grown aL (fun j e hy=>?_))
     have:=hfn j e
     have:=hY j hy
     omega
  ·have hd:decide ((k:Int)<(gs.length:Int))=false:=by have:=(aA HT).2.2.2.2.2;simp;omega
   have XP:¬ (k:Int)<(gs.length:Int):=by have:=(aA HT).2.2.2.2.2;omega
   have L7:l.take k=l:=List.take_of_length_le (by omega)
   rw [L7] at HI
   obtain ⟨hMk,XL,hfn,LG,hb1,hb2⟩:=aA HI
   have aBF:(eK l S to).2.length=k:=by have:=XL.1;simp [cG] at this;exact this
   have hML:=xC l S to
   have hYs:∀ j,Y j->j<wr.heap.size:=fun j hj=>by have:=hY j hj;omega
   have HA:=aB (JL ⟨[],0,(eK l S to).2⟩ 0 (.slice aj k cj) iX (hMk.reY (fun j _ hj => .inl hj)) (by omega) (by rw [aBF];exact XL) (fun j hj hy=>by have:=hfn j hj;have:=hY j hy;omega) hYs)
   have HK:=aB LG
   clear hMk XL LG hb1 hb2 HI aBF
   go_wp2_with fail
   refine (aA HA).mono ?_
   rintro e w3 ⟨rfl,j9,hK3⟩
   go_wp2
   go_ret
   exact ⟨rfl,j9,(aA HK).trans hK3⟩
theorem FY {w0:World} {b:Nat} (t:PT) (ih:jT w0 b t):jT w0 b (.rep 63 t):=by
 intro w Y S to st en p hT vP hB hY hM hlen
 rw [TR] at hT
 obtain ⟨_,v,gt,hp,hv,hTt⟩:=hT
 rw [aP] at hlen
 obtain ⟨vb,cap,rfl,_,dB⟩:=hv.1.form (by simp)
 have cv:=hv.1.cellAt 0 (by simp)
 simp [bD] at cv
 have eI:=nT hB hp
 have hpl:=aD eI
 have aC9:vb<w.heap.size:=Nat.lt_of_lt_of_le dB hB.size
 have cv1:w.cell? ⟨vb,0,none⟩=some (.pointer (some ⟨gt,0,none⟩)):=by rw [World.cell?_of_block (w:=w0) (w':=w) (a:=⟨vb,0,none⟩) (hB.block vb dB)];exact cv
 have k0:∀ o o',((w.alloc o).alloc o').cell? ⟨p,0,none⟩=some (.int .i64 5):=fun o o'=>by rw [World.cell?_alloc_past _ _ _ (by simp;omega),World.cell?_alloc_past _ _ _ hpl,aC eI 0];rfl
 have k2:∀ o o',((w.alloc o).alloc o').cell? ⟨p,2,none⟩=some (.slice (some ⟨vb,0,none⟩) 1 cap):=fun o o'=>by rw [World.cell?_alloc_past _ _ _ (by simp;omega),World.cell?_alloc_past _ _ _ hpl,aC eI 2];rfl
 have k3:∀ o o',((w.alloc o).alloc o').cell? ⟨vb,0,none⟩=some (.pointer (some ⟨gt,0,none⟩)):=fun o o'=>by rw [World.cell?_alloc_past _ _ _ (by simp;omega),World.cell?_alloc_past _ _ _ aC9];exact cv1
 have hpY:Y p:=vP p (aD hp)
 have hvY:Y vb:=vP vb dB
 have hb1:((w.alloc (.cells #[.pointer (some ⟨b,0,none⟩)] 120)).alloc (.cells #[.int .i64 (to:Int)] 3)).heap[w.heap.size]? = some (.cells #[.pointer (some ⟨b,0,none⟩)] 120 (0,0)):=heap_alloc_old _ (heap_alloc_new w _)
 have hb2:((w.alloc (.cells #[.pointer (some ⟨b,0,none⟩)] 120)).alloc (.cells #[.int .i64 (to:Int)] 3)).heap[w.heap.size+1]? = some (.cells #[.int .i64 (to:Int)] 3 (0,0)):=bC w _ _
 have pS:MH ((w.alloc (.cells #[.pointer (some ⟨b,0,none⟩)] 120)).alloc (.cells #[.int .i64 (to:Int)] 3)).drew (YL Y w (.slice none 0 0)) b S st en:=by
  refine MH.reY ((hM.far.alloc _).alloc _).drew (fun k _ hz=>?_)
  rcases hz with hz | hz | hz | hz
  ·exact .inl hz
  ·exact .inr (by omega)
  ·exact .inr (by omega)
  ·cases hz
 have mN:Below w0.heap.size w0 ((w.alloc (.cells #[.pointer (some ⟨b,0,none⟩)] 120)).alloc (.cells #[.int .i64 (to:Int)] 3)).drew:=hB.trans (((Below.refl _ w).alloc hB.size _).alloc (by have:=hB.size;simp;omega) _).drew
 have sO:∀ k,YL Y w (.slice none 0 0) k->k<((w.alloc (.cells #[.pointer (some ⟨b,0,none⟩)] 120)).alloc (.cells #[.int .i64 (to:Int)] 3)).drew.heap.size:=by
  intro k hk
  rcases hk with hk | hk | hk | hk
  ·have:=hY k hk;simp;omega
  ·simp;omega
  ·simp;omega
  ·cases hk
 have HC:=aB (ih _ (YL Y w (.slice none 0 0)) S to st en gt hTt (fun j hj => .inl (vP j hj)) mN sO pS (by omega))
 have HB:=aB (And.intro hb1 (And.intro hb2 sO))
 have hML:=fL t S to
 have HK0:Hid (Kp Y w ((w.alloc (.cells #[.pointer (some ⟨b,0,none⟩)] 120)).alloc (.cells #[.int .i64 (to:Int)] 3)).drew):=((Kp.alloc Y w _).trans (Kp.alloc Y _ _)).trans (Kp.drew Y _)
 have Hc:=aB (And.intro (k2 (.cells #[.pointer (some ⟨b,0,none⟩)] 120) (.cells #[.int .i64 (to:Int)] 3)) (k3 (.cells #[.pointer (some ⟨b,0,none⟩)] 120) (.cells #[.int .i64 (to:Int)] 3)))
 have HA:=aB (fun (w3:World) (j9:MH w3 (YL Y w (.slice none 0 0)) b (bJ t S to).1 st en) (hs3:∀ k,YL Y w (.slice none 0 0) k->k<w3.heap.size)=>
  JL ⟨[],0,[to,(bJ t S to).2]⟩ 0 (.slice (some ⟨w3.heap.size,0,none⟩) 2 2) iX (j9.alloc (.cells #[.int .i64 (to:Int),.int .i64 ((bJ t S to).2:Int)] 3)) (by omega) (World.ownsRow_lit (base:=0) (e:=3) (size:=1) w3 #[.int .i64 (to:Int),.int .i64 ((bJ t S to).2:Int)] 2 (by omega) (by unfold maxLen;omega) rfl) (fun k hk hy=>by simp [Value.ownBlock] at hk;have:=hs3 k hy;omega) (fun k hk=>by have:=hs3 k hk;simp;omega))
 rw [bJ,if_neg (by decide)]
 clear hp eI hM hB hv hTt ih hb1 hb2 pS mN sO cv cv1
 go_enter Tryz.func141,Tryz.ntmps141
 go_wp2_with fail
 have s1:((w.alloc (.cells #[.pointer (some ⟨b,0,none⟩)] 120)).alloc (.cells #[.int .i64 (to:Int)] 3)).cell? ⟨w.heap.size,0,none⟩=some (.pointer (some ⟨b,0,none⟩)):=by rw [aC (aA HB).1 0];rfl
 have s2:((w.alloc (.cells #[.pointer (some ⟨b,0,none⟩)] 120)).alloc (.cells #[.int .i64 (to:Int)] 3)).cell? ⟨w.heap.size+1,0,none⟩=some (.int .i64 (to:Int)):=by rw [aC (aA HB).2.1 0];rfl
 have HS:Hid (∀ w3,Kp (YL Y w (.slice none 0 0)) ((w.alloc (.cells #[.pointer (some ⟨b,0,none⟩)] 120)).alloc (.cells #[.int .i64 (to:Int)] 3)).drew w3->w3.cell? ⟨w.heap.size,0,none⟩=some (.pointer (some ⟨b,0,none⟩))/\w3.cell? ⟨w.heap.size+1,0,none⟩=some (.int .i64 (to:Int))/\w3.cell? ⟨p,2,none⟩=some (.slice (some ⟨vb,0,none⟩) 1 cap)/\w3.cell? ⟨vb,0,none⟩=some (.pointer (some ⟨gt,0,none⟩))):=by
  intro w3 hK
  refine ⟨?_,?_,?_,?_⟩
  ·rw [World.cell?_of_block (a:=⟨w.heap.size,0,none⟩) (hK.block w.heap.size (by simp;omega) (.inr (.inl rfl)))];exact s1
  ·rw [World.cell?_of_block (a:=⟨w.heap.size+1,0,none⟩) (hK.block (w.heap.size+1) (by simp) (.inr (.inr (.inl rfl))))];exact s2
  ·rw [World.cell?_of_block (a:=⟨p,2,none⟩) (hK.block p (by simp;omega) (.inl hpY))];exact (aA Hc).1
  ·rw [World.cell?_of_block (a:=⟨vb,0,none⟩) (hK.block vb (by simp;omega) (.inl hvY))];exact (aA Hc).2
 go_region_held3 (fun w'=>w'.cell? ⟨w.heap.size,0,none⟩=some (.pointer (some ⟨b,0,none⟩))/\w'.cell? ⟨w.heap.size+1,0,none⟩=some (.int .i64 (to:Int))/\w'.cell? ⟨p,2,none⟩=some (.slice (some ⟨vb,0,none⟩) 1 cap)/\w'.cell? ⟨vb,0,none⟩=some (.pointer (some ⟨gt,0,none⟩))) (go_keep) (first
  | (go_at_call 141;refine (aA HC).mono ?_;rintro e w3 ⟨rfl,j9,hK3⟩;have hz3:∀ k,YL Y w (.slice none 0 0) k->k<w3.heap.size:=(fun k hk=>Nat.lt_of_lt_of_le ((aA HB).2.2 k hk) hK3.size);obtain ⟨t1,t2,t3,t4⟩:=aA HS w3 hK3;have a1:=(fun o=>(World.cell?_alloc_past (w:=w3) o (w.heap.size) 0 (hz3 _ (.inr (.inl rfl)))).trans t1);have a2:=(fun o=>(World.cell?_alloc_past (w:=w3) o (w.heap.size+1) 0 (hz3 _ (.inr (.inr (.inl rfl))))).trans t2);have a3:=(fun o=>(World.cell?_alloc_past (w:=w3) o (p) 2 (hz3 _ (.inl hpY))).trans t3);have a4:=(fun o=>(World.cell?_alloc_past (w:=w3) o (vb) 0 (hz3 _ (.inl hvY))).trans t4);have HA3:=aB (aA HA w3 j9 hz3);have HK3:=aB hK3;clear j9 hK3)
  | (go_at_call 140;refine (aA HA3).mono ?_;rintro e w4 ⟨rfl,hM4,hK4⟩;obtain ⟨u1,u2,u3,u4⟩:=aA HS w4 (((aA HK3).trans (Kp.alloc _ w3 _)).trans hK4)))
 all_goals
  go_wp2
  go_ret
  exact ⟨rfl,hM4.reY (fun k _ hk => .inl hk),(aA HK0).trans (Kp.mono (((aA HK3).trans (Kp.alloc _ w3 _)).trans hK4) (fun k _ hk => .inl hk))⟩
end Go.Proofs.YtlljggefbngkeaaGreatDoor
