import Derived.RangeFuncNested
import Derived.RangeFuncBound
import Derived.RangeFuncCalls
import Derived.RangeFuncLeaves
import Derived.WalkKit
import Derived.Sort.QuietTacIn
import Derived.TacticsIn
import Derived.Test.YtlljggefbngkeaaGreatDoorU03
set_option maxHeartbeats 1600000
namespace Go.Proofs.YtlljggefbngkeaaGreatDoor
open Go.RowKit
structure Fz (N:Nat) (fp:World->Nat->Prop) (A A':World):Prop where
 os:A'.os=A.os
 tape:A'.tape=A.tape
 output:A'.output=A.output
 size:A.heap.size<=A'.heap.size
 block:∀ k,k<A.heap.size->(k<N\/fp A k)->A'.heap[k]? = A.heap[k]?
structure Kf (fp:World->Nat->Prop) (A A':World):Prop where
 os:A'.os=A.os
 tape:A'.tape=A.tape
 output:A'.output=A.output
 size:A.heap.size<=A'.heap.size
 block:∀ k,k<A.heap.size->¬ fp A k->A'.heap[k]? = A.heap[k]?
 new:∀ k,fp A' k->fp A k\/A.heap.size<=k
theorem Fz.of_grown {N:Nat} {fp:World->Nat->Prop} {A A':World} {r:Option Nat} (h:A.grownBy A' r) (hr:∀ k,r=some k->N<=k/\¬ fp A k):Fz N fp A A' :=
 ⟨h.os,h.tape,h.output,h.size,fun k hk hz=>h.block k hk (fun e=>hz.elim (fun h=>by have:=(hr k e.symm).1;omega) (fun h=>(hr k e.symm).2 h))⟩
theorem Fz.mono {N M:Nat} {fp:World->Nat->Prop} {A A':World} (h:Fz N fp A A') (hm:M<=N):Fz M fp A A' :=
 ⟨h.os,h.tape,h.output,h.size,fun k hk hz=>h.block k hk (hz.imp_left (fun h=>Nat.lt_of_lt_of_le h hm))⟩
def JD {α:Type} (F:Fence) (n:Nat) (P:Program) (g:Nat) (lb:Array Value) (encs:α->Array Value) (fp:World->Nat->Prop) (cR:Bool) (Ok:List α->α->Prop) (S Sp:List α->Prop) (w:World):Prop:=
 ∀ (l:Nat) (J Jx:List α->World->Prop) (W:World),w.grownBy W none->
  (∀ pre A A',J pre A->Fz W.heap.size fp A A'->J pre A'/\∀ k,fp A' k↔fp A k)->(∀ pre A A',Jx pre A->Fz W.heap.size fp A A'->Jx pre A')->(cR=true->∀ pre A,J pre A->∀ k,fp A k->k<A.heap.size)->
  (∀ pre x W1,J pre W1->Ok pre x->YieldAt F (n-1) P l (encs x) W1 fun e W' =>
   (e = .returned (.bool true)/\J (pre++[x]) W'/\Kf fp W1 W')\/(e = .returned (.bool false)/\Jx (pre++[x]) W'))->
  J [] W->
  CallsIn F n P g (#[.func (.yield l) #[] #[]]++lb) W fun e W'=>(∃ v,e = .returned v)/\((∃ xs,S xs/\J xs W')\/(∃ pre,Sp pre/\Jx pre W'))
def wY {α:Type} (fp:World->Nat->Prop) (I Ix:List α->World->Prop) (xs:List α) (W:World):Exit->Act->World->Prop
 | .normal,_,W'=>Kf fp W W'/\I xs W'
 | .ret,_,W'=>Kf fp W W'/\Ix xs W'
 | .exit _,_,_=>False
 | .goto _,_,_=>False
 | .panic _,_,_=>False
 | .outgrown,_,_=>False
variable {F:Fence} {n:Nat} {P:Program}
theorem lB {α:Type} {g:Operand} {ps:Array Tmp} {assign body:Code} {Q:Exit->Act->World->Prop} {a:Act} {w:World}
  (hro:F.round=none) (h1:1<=n) {gf:Nat} {lb:Array Value} (hg:a.eval g = .func (.func gf) #[] lb) (hFg:F.fn gf) (eg:∀ args w,(callFunc gf args).run P w = .ok (.enter gf args) w)
  {encs:α->Array Value} {fp:World->Nat->Prop} {cR:Bool} {Ok:List α->α->Prop} {S Sp:List α->Prop} (hseq:JD F (n-1) P gf lb encs fp cR Ok S Sp w) (V8:∀ x,(encs x).size=ps.size)
  (I Ix:List α->World->Prop) (hI:∀ pre A A',I pre A->Fz w.heap.size fp A A'->I pre A'/\∀ k,fp A' k↔fp A k) (UQ:∀ pre A A',Ix pre A->(∀ k,k<A.heap.size->(k<w.heap.size\/w.heap.size+2<=k)->A'.heap[k]? = A.heap[k]?)->A'.heap.size=A.heap.size->A'.os=A.os->A'.tape=A.tape->A'.output=A.output->Ix pre A')
  (hIy:∀ pre A A',Ix pre A->Fz w.heap.size fp A A'->Ix pre A')
  (dG:∀ pre A k,I pre A->fp A k->k<w.heap.size\/w.heap.size+2<=k) (XM:cR=true->∀ pre A,I pre A->∀ k,fp A k->k<A.heap.size)
  (h0:I [] w) (a₁:α->Act)
  (qJ:∀ (l:Nat) (x:α) (W:World) (K:Act->World->Prop),K (a₁ x) W->
   assign.wpIn (F.inRound l) (n-1-1) P (Exit.then K (fun _ _ _=>False)) {tmps:=(ps.zip (encs x)).foldl (fun t (p,v)=>t.setIfInBounds p v) a.tmps,defers:=[]} W)
  (D5:∀ (l:Nat) (pre:List α) (x:α) (W:World),I pre W->Ok pre x->w.heap.size+2<=W.heap.size->body.wpIn (F.inRound l) (n-1-1) P (wY fp I Ix (pre++[x]) W) (a₁ x) W)
  (hdone:∀ (D:Nat) (xs:List α) (W:World),D=w.heap.size->S xs->I xs W->W.heap[D]? = some (.deferred (some []))->Q .normal {a with defers:={target := .collected D,args := #[]}::a.defers} W)
  (uQ:∀ (D:Nat) (pre:List α) (W:World),D=w.heap.size->Sp pre->Ix pre W->W.heap[D]? = some (.deferred (some []))->Code.ret.wpIn F n P Q {a with defers:={target := .collected D,args := #[]}::a.defers} W):
  (Code.rangeFunc g ps assign body).wpIn F n P Q a w:=by
 refine wpIn_rangeFunc ?_
 intro fn hfn
 rw [hro]
 obtain ⟨rec,fG⟩:∃ rec:LoopState->Option Code->Loop,rec=fun st pe=>{state:=st,pending:=pe,fn,tmps:=a.tmps,params:=ps,assign,body,defers:=w.heap.size}:=⟨_,rfl⟩
 obtain ⟨W1,hW1⟩:∃ W1,(w.alloc (.deferred (some []))).alloc (.loop (rec .ready none))=W1:=⟨_,rfl⟩
 have wF:W1.heap[w.heap.size+1]? = some (.loop (rec .ready none)):=by
  rw [← hW1];have:=World.alloc_heap_new (w.alloc (.deferred (some []))) (.loop (rec .ready none));rwa [World.size_alloc] at this
 have cO:W1.heap[w.heap.size]? = some (.deferred (some [])):=by
  rw [← hW1];exact (Below.heap_alloc _ _ _ (by simp)).trans (World.alloc_heap_new w _)
 have hs1:W1.heap.size=w.heap.size+2:=by rw [← hW1];simp
 have hg1:w.grownBy W1 none:=by rw [← hW1];exact (World.grownBy_alloc w _ none).trans (World.grownBy_alloc _ _ _)
 have hz1:Fz w.heap.size fp w W1:=Fz.of_grown hg1 (fun k e=>by cases e)
 have LI:=hI [] w W1 h0 hz1
 refine ⟨w.heap.size+1,[{target := .collected w.heap.size,args := #[]}],W1,{target := .fn (.func gf) lb,args := #[.func (.yield (w.heap.size+1)) #[] #[]]},W1,gf,
  #[.func (.yield (w.heap.size+1)) #[] #[]]++lb,W1,?_,?_,?_,?_,fun _=>h1,?_⟩
 ·rw [← hW1,fG];exact run_enterLoop_outer _ _ _ _ _
 ·simp only [resolve,hg]
  simp [go_sem]
 ·intro f' hf';simp [Target.leads] at hf';subst hf';exact hFg
 ·simp [invoke,go_sem,eg]
 ·refine (hseq (w.heap.size+1)
   (fun pre W=>I pre W/\W.heap[w.heap.size+1]? = some (.loop (rec .ready none))/\W.heap[w.heap.size]? = some (.deferred (some [])))
   (fun pre W=>Ix pre W/\W.heap[w.heap.size+1]? = some (.loop (rec .done (some .ret)))/\W.heap[w.heap.size]? = some (.deferred (some [])))
   W1 hg1
   (fun pre A A' hs hz=>?_) (fun pre A A' hs hz=>?_) (fun fZ pre A hs k hk=>XM fZ pre A hs.1 k hk) ?_ ⟨LI.1,wF,cO⟩).mono ?_
  ·obtain ⟨q1,q2⟩:=hI pre A A' hs.1 (hz.mono (by omega))
   exact ⟨⟨q1,(hz.block _ (Array.getElem?_eq_some_iff.1 hs.2.1).1 (.inl (by omega))).trans hs.2.1,(hz.block _ (Array.getElem?_eq_some_iff.1 hs.2.2).1 (.inl (by omega))).trans hs.2.2⟩,q2⟩
  ·exact ⟨hIy pre A A' hs.1 (hz.mono (by omega)),(hz.block _ (Array.getElem?_eq_some_iff.1 hs.2.1).1 (.inl (by omega))).trans hs.2.1,(hz.block _ (Array.getElem?_eq_some_iff.1 hs.2.2).1 (.inl (by omega))).trans hs.2.2⟩
  ·
   rintro pre x W ⟨hi,hl,hk⟩ gG
   have hlt:w.heap.size+1<W.heap.size:=(Array.getElem?_eq_some_iff.1 hl).1
   have V9:¬ fp W (w.heap.size+1):=fun h=>by have:=dG pre W _ hi h;omega
   have PL:¬ fp W w.heap.size:=fun h=>by have:=dG pre W _ hi h;omega
   have hy:=run_yield (P:=P) (args:=encs x) hl (by rw [fG];exact V8 x)
   rw [fG] at hy
   refine ⟨fn,_,assign,body,hy,roundIn_of_wpIn hfn (qJ _ x W _ ⟨_,run_beginRound hl (by rw [fG]),?_⟩)⟩
   have hl2:(W.putObj (w.heap.size+1) (.loop {rec .ready none with state := .busy})).heap[w.heap.size+1]? = some (.loop {rec .ready none with state := .busy}):=World.putObj_heap_same hlt
   have hk2:(W.putObj (w.heap.size+1) (.loop {rec .ready none with state := .busy})).heap[w.heap.size]? = some (.deferred (some [])):=(World.putObj_heap_other (by omega)).trans hk
   have hg2:=grownBy_putObj' W (w.heap.size+1) (.loop {rec .ready none with state := .busy})
   obtain ⟨GU,hf2⟩:=hI pre _ _ hi (Fz.of_grown hg2 (fun k e=>by cases e;exact ⟨by omega,V9⟩))
   have TI:(W.putObj (w.heap.size+1) (.loop {rec .ready none with state := .busy})).heap.size=W.heap.size:=by simp [World.putObj]
   generalize W.putObj (w.heap.size+1) (.loop {rec .ready none with state := .busy})=W2 at *
   refine wpIn_mono (D5 _ pre x _ GU gG (by omega)) ?_
   have fin:∀ (jump:Option Code) (W3:World),Kf fp W2 W3->
     (Instr.endRound (w.heap.size+1) jump).run P W3 = .ok (.bool jump.isNone) (W3.putObj (w.heap.size+1) (.loop (rec (if jump.isNone then .ready else .done) jump)))/\
     W3.heap[w.heap.size+1]? = some (.loop {rec .ready none with state := .busy})/\
     (W3.putObj (w.heap.size+1) (.loop (rec (if jump.isNone then .ready else .done) jump))).heap[w.heap.size+1]? = some (.loop (rec (if jump.isNone then .ready else .done) jump))/\
     (W3.putObj (w.heap.size+1) (.loop (rec (if jump.isNone then .ready else .done) jump))).heap[w.heap.size]? = some (.deferred (some [])):=fun jump W3 hk3=>by
    have yW:=(hk3.block _ (by omega) (fun h=>V9 ((hf2 _).1 h))).trans hl2
    have i8:=(hk3.block _ (by omega) (fun h=>PL ((hf2 _).1 h))).trans hk2
    have:=run_endRound (P:=P) jump yW
    rw [fG] at this ⊢
    exact ⟨this,by rw [fG] at yW;exact yW,World.putObj_heap_same (Array.getElem?_eq_some_iff.1 yW).1,(World.putObj_heap_other (by omega)).trans i8⟩
   rintro e a3 W3 hp
   cases e with
   | normal=>
    obtain ⟨hk3,yX⟩:=hp
    obtain ⟨hr,yW,hl4,hk4⟩:=fin none W3 hk3
    have hn3:¬ fp W3 (w.heap.size+1):=fun h=>by have:=dG _ W3 _ yX h;omega
    have hg4:=grownBy_putObj' W3 (w.heap.size+1) (.loop (rec .ready none))
    obtain ⟨NY,hf4⟩:=hI _ _ _ yX (Fz.of_grown hg4 (fun k e=>by cases e;exact ⟨by omega,hn3⟩))
    refine ⟨_,_,hr,.inl ⟨rfl,⟨NY,hl4,hk4⟩,?_⟩⟩
    refine ⟨hg4.os.trans (hk3.os.trans hg2.os),hg4.tape.trans (hk3.tape.trans hg2.tape),hg4.output.trans (hk3.output.trans hg2.output),Nat.le_trans hg2.size (Nat.le_trans hk3.size hg4.size),fun k dS KZ=>?_,fun k hf=>?_⟩
    ·by_cases e:k=w.heap.size+1
     ·subst e
      exact hl4.trans hl.symm
     ·exact (hg4.block k (by have:=hk3.size;omega) (by simpa using e)).trans ((hk3.block k (by omega) (fun h=>KZ ((hf2 k).1 h))).trans (hg2.block k dS (by simpa using e)))
    ·rcases hk3.new k ((hf4 k).1 hf) with h | h
     ·exact .inl ((hf2 k).1 h)
     ·exact .inr (by omega)
   | ret=>
    obtain ⟨hk3,yX⟩:=hp
    obtain ⟨hr,yW,hl4,hk4⟩:=fin (some .ret) W3 hk3
    refine ⟨_,_,hr,.inr ⟨rfl,UQ _ W3 _ yX (fun k _ hz=>World.putObj_heap_other (by omega)) (by simp [World.putObj]) rfl rfl rfl,hl4,hk4⟩⟩
   | exit id=>exact hp.elim
   | goto t=>exact hp.elim
   | panic ch=>exact hp.elim
   | outgrown=>exact hp.elim
  ·
   rintro e W2 ⟨⟨v,rfl⟩,(⟨xs,hS,hi,hl,hk⟩ | ⟨pre,hSp,hi,hl,hk⟩)⟩
   ·have PN:¬ fp W2 (w.heap.size+1):=fun h=>by have:=dG _ W2 _ hi h;omega
    exact ⟨none,_,by have:=run_endLoop (P:=P) hl (by rw [fG];simp);rw [fG] at this;exact this,hdone _ xs _ rfl hS (hI _ _ _ hi (Fz.of_grown (grownBy_putObj' W2 (w.heap.size+1) _) (fun k e=>by cases e;exact ⟨by omega,PN⟩))).1 ((World.putObj_heap_other (by omega)).trans hk)⟩
   ·exact ⟨some .ret,_,by have:=run_endLoop (P:=P) hl (by rw [fG];simp);rw [fG] at this;exact this,uQ _ pre _ rfl hSp (UQ _ W2 _ hi (fun k _ hz=>World.putObj_heap_other (by omega)) (by simp [World.putObj]) rfl rfl rfl) ((World.putObj_heap_other (by omega)).trans hk)⟩
def p9 (ops:Array Oper):Bool:=ops.toList.all fun o=>match o.op with | .defer _=>false | _=>true
theorem V1 {ops:Array Oper} (h:p9 ops=true) {i:Nat} {o:Oper} (hi:ops[i]? = some o):∀ c,o.op ≠ .defer c:=by
 intro c e
 have hm:o∈ops.toList:=by
  have:=List.mem_of_getElem? (l:=ops.toList) (i:=i) (a:=o) (by simpa using hi)
  exact this
 have:=List.all_eq_true.1 h o hm
 rw [e] at this
 cases this
theorem B4 {l:Nat} {o:Oper} {a:Act} {w:World} {K:Act->World->Prop} {Q:Exit->Act->World->Prop} (hro:F.round=none) (hd:∀ c,o.op ≠ .defer c) (h:o.wpIn F n P a w K Q):o.wpIn (F.inRound l) n P a w K Q:=by
 unfold Oper.wpIn at *
 rw [hro,Oper.semAt_none] at h
 rw [Fence.inRound_round,Oper.semAt_some l a.eval o hd]
 refine ⟨h.1,?_⟩
 have hh:=h.2
 generalize (execOp a.eval o).run P w=r at *
 cases r with
 | ok x w'=>cases x <;> exact hh
 | halt x w'=>cases x <;> exact hh
theorem qR {l:Nat} {md:Region.Mode} {ops:Array Oper} {Q:Exit->Act->World->Prop} (hro:F.round=none) (hd:p9 ops=true):∀ (fuel:Nat) (listed:Array Bool) (a:Act) (w:World),wpAnyIn F n P md ops Q fuel listed a w->wpAnyIn (F.inRound l) n P md ops Q fuel listed a w
 | 0,_,_,_,h=>h
 | fuel+1,listed,a,w,h=>by
  refine ⟨h.1,fun i hi=>?_⟩
  have h1:=wpOpIn_mono (fun a' w'=>qR (l:=l) hro hd fuel (listed.setIfInBounds i true) a' w') (h.2 i hi)
  unfold wpOpIn at *
  split
  ·simpa [*] using h1
  ·rename_i o ho
   simp only [ho] at h1
   split
   ·rename_i hw
    simp only [hw,if_true] at h1
    exact B4 hro (V1 hd ho) h1
   ·rename_i hw
    simp only [hw] at h1
    exact h1
theorem pD {l id:Nat} {ops:Array Oper} {C:World->Prop} {Q:Exit->Act->World->Prop} {a:Act} {w:World} (hro:F.round=none) (hm:P.follows .mixedOrders=true) (hB:Region.lexB .any ops=true) (hd:p9 ops=true) (hC:C w.drew)
  (h:wpQuietIn F n P ops C (fun a'=>∀ w',C w'->Q .normal a' w') ops.toList a):(Code.region id ops true).wpIn (F.inRound l) n P Q a w:=by
 simp only [Region.lexB,Bool.and_eq_true] at hB
 refine wpIn_region_any hm (qR hro hd _ _ _ _ (wpAnyIn_of_quiet (Q:=fun a'=>∀ w',C w'->Q .normal a' w') hro (fun _ w' hw' h=>h w' hw') _ _ _ _ hC ?_))
 have:=wpAnyQIn_lex (F:=F) (n:=n) (C:=C) (md := .any) hB.1 ops.toList 0 (Array.replicate ops.size false) a (by simp) (by simpa using hB.2) h
 simpa using this
theorem eJ {l id:Nat} {lst:List Oper} {C:World->Prop} {Q:Exit->Act->World->Prop} {a:Act} {w:World} (hro:F.round=none) (hm:P.follows .mixedOrders=true) (hB:Region.lexB .any lst.toArray=true) (hd:p9 lst.toArray=true) (hC:C w.drew)
  (h:wpQuietIn F n P lst.toArray C (fun a'=>∀ w',C w'->Q .normal a' w') lst a):(Code.region id lst.toArray true).wpIn (F.inRound l) n P Q a w:=
 pD hro hm hB hd hC (by simpa using h)
def aG5 {α:Type} (F:Fence) (n:Nat) (P:Program) (g:Nat) (lb:Array Value) (encs:α->Array Value) (fp:World->Nat->Prop) (cR:Bool) (Ok:List α->α->Prop) (S Sp:List α->Prop) (w:World):Prop:=
 ∀ (l:Nat) (J Jx:List α->World->Prop) (W:World),w.grownBy W none->w.heap.size<=l->l<W.heap.size->
  (∀ pre A A',J pre A->Fz W.heap.size fp A A'->J pre A'/\∀ k,fp A' k↔fp A k)->(∀ pre A A',Jx pre A->Fz W.heap.size fp A A'->Jx pre A')->(cR=true->∀ pre A,J pre A->∀ k,fp A k->k<A.heap.size)->
  (∀ pre x W1,J pre W1->Ok pre x->YieldAt F (n-1) P l (encs x) W1 fun e W' =>
   (e = .returned (.bool true)/\J (pre++[x]) W'/\Kf fp W1 W')\/(e = .returned (.bool false)/\Jx (pre++[x]) W'/\Kf (fun A k=>fp A k\/k=l) W1 W'))->
  J [] W->
  CallsIn F n P g (#[.func (.yield l) #[] #[]]++lb) W fun e W'=>(∃ v,e = .returned v)/\((∃ xs,S xs/\J xs W')\/(∃ pre,Sp pre/\Jx pre W'))
variable {F:Fence} {n:Nat} {P:Program}
theorem AO {α:Type} {g:Operand} {ps:Array Tmp} {assign body:Code} {Q:Exit->Act->World->Prop} {a:Act} {w:World}
  (hro:F.round=none) (h1:1<=n) {gf:Nat} {lb:Array Value} (hg:a.eval g = .func (.func gf) #[] lb) (hFg:F.fn gf) (eg:∀ args w,(callFunc gf args).run P w = .ok (.enter gf args) w)
  {encs:α->Array Value} {fp:World->Nat->Prop} {cR:Bool} {Ok:List α->α->Prop} {S Sp:List α->Prop} (aHF:∀ (A A':World) k,fp A k↔fp A' k) (hseq:aG5 F (n-1) P gf lb encs fp cR Ok S Sp w) (V8:∀ x,(encs x).size=ps.size)
  (I Ix:List α->World->Prop) (hI:∀ pre A A',I pre A->Fz w.heap.size fp A A'->I pre A'/\∀ k,fp A' k↔fp A k) (UQ:∀ pre A A',Ix pre A->(∀ k,k<A.heap.size->(k<w.heap.size\/w.heap.size+2<=k)->A'.heap[k]? = A.heap[k]?)->A'.heap.size=A.heap.size->A'.os=A.os->A'.tape=A.tape->A'.output=A.output->Ix pre A')
  (hIy:∀ pre A A',Ix pre A->Fz w.heap.size fp A A'->Ix pre A')
  (dG:∀ pre A k,I pre A->fp A k->k<w.heap.size\/w.heap.size+2<=k) (XM:cR=true->∀ pre A,I pre A->∀ k,fp A k->k<A.heap.size)
  (h0:I [] w) (a₁:α->Act)
  (qJ:∀ (l:Nat) (x:α) (W:World) (K:Act->World->Prop),K (a₁ x) W->
   assign.wpIn (F.inRound l) (n-1-1) P (Exit.then K (fun _ _ _=>False)) {tmps:=(ps.zip (encs x)).foldl (fun t (p,v)=>t.setIfInBounds p v) a.tmps,defers:=[]} W)
  (D5:∀ (l:Nat) (pre:List α) (x:α) (W:World),I pre W->Ok pre x->w.heap.size+2<=W.heap.size->body.wpIn (F.inRound l) (n-1-1) P (wY fp I Ix (pre++[x]) W) (a₁ x) W)
  (hdone:∀ (D:Nat) (xs:List α) (W:World),D=w.heap.size->S xs->I xs W->W.heap[D]? = some (.deferred (some []))->Q .normal {a with defers:={target := .collected D,args := #[]}::a.defers} W)
  (uQ:∀ (D:Nat) (pre:List α) (W:World),D=w.heap.size->Sp pre->Ix pre W->W.heap[D]? = some (.deferred (some []))->Code.ret.wpIn F n P Q {a with defers:={target := .collected D,args := #[]}::a.defers} W):
  (Code.rangeFunc g ps assign body).wpIn F n P Q a w:=by
 refine wpIn_rangeFunc ?_
 intro fn hfn
 rw [hro]
 obtain ⟨rec,fG⟩:∃ rec:LoopState->Option Code->Loop,rec=fun st pe=>{state:=st,pending:=pe,fn,tmps:=a.tmps,params:=ps,assign,body,defers:=w.heap.size}:=⟨_,rfl⟩
 obtain ⟨W1,hW1⟩:∃ W1,(w.alloc (.deferred (some []))).alloc (.loop (rec .ready none))=W1:=⟨_,rfl⟩
 have wF:W1.heap[w.heap.size+1]? = some (.loop (rec .ready none)):=by
  rw [← hW1];have:=World.alloc_heap_new (w.alloc (.deferred (some []))) (.loop (rec .ready none));rwa [World.size_alloc] at this
 have cO:W1.heap[w.heap.size]? = some (.deferred (some [])):=by
  rw [← hW1];exact (Below.heap_alloc _ _ _ (by simp)).trans (World.alloc_heap_new w _)
 have hs1:W1.heap.size=w.heap.size+2:=by rw [← hW1];simp
 have hg1:w.grownBy W1 none:=by rw [← hW1];exact (World.grownBy_alloc w _ none).trans (World.grownBy_alloc _ _ _)
 have hz1:Fz w.heap.size fp w W1:=Fz.of_grown hg1 (fun k e=>by cases e)
 have LI:=hI [] w W1 h0 hz1
 refine ⟨w.heap.size+1,[{target := .collected w.heap.size,args := #[]}],W1,{target := .fn (.func gf) lb,args := #[.func (.yield (w.heap.size+1)) #[] #[]]},W1,gf,
  #[.func (.yield (w.heap.size+1)) #[] #[]]++lb,W1,?_,?_,?_,?_,fun _=>h1,?_⟩
 ·rw [← hW1,fG];exact run_enterLoop_outer _ _ _ _ _
 ·simp only [resolve,hg]
  simp [go_sem]
 ·intro f' hf';simp [Target.leads] at hf';subst hf';exact hFg
 ·simp [invoke,go_sem,eg]
 ·refine (hseq (w.heap.size+1)
   (fun pre W=>I pre W/\W.heap[w.heap.size+1]? = some (.loop (rec .ready none))/\W.heap[w.heap.size]? = some (.deferred (some [])))
   (fun pre W=>Ix pre W/\W.heap[w.heap.size+1]? = some (.loop (rec .done (some .ret)))/\W.heap[w.heap.size]? = some (.deferred (some [])))
   W1 hg1 (by omega) (by omega)
   (fun pre A A' hs hz=>?_) (fun pre A A' hs hz=>?_) (fun fZ pre A hs k hk=>XM fZ pre A hs.1 k hk) ?_ ⟨LI.1,wF,cO⟩).mono ?_
  ·obtain ⟨q1,q2⟩:=hI pre A A' hs.1 (hz.mono (by omega))
   exact ⟨⟨q1,(hz.block _ (Array.getElem?_eq_some_iff.1 hs.2.1).1 (.inl (by omega))).trans hs.2.1,(hz.block _ (Array.getElem?_eq_some_iff.1 hs.2.2).1 (.inl (by omega))).trans hs.2.2⟩,q2⟩
  ·exact ⟨hIy pre A A' hs.1 (hz.mono (by omega)),(hz.block _ (Array.getElem?_eq_some_iff.1 hs.2.1).1 (.inl (by omega))).trans hs.2.1,(hz.block _ (Array.getElem?_eq_some_iff.1 hs.2.2).1 (.inl (by omega))).trans hs.2.2⟩
  ·
   rintro pre x W ⟨hi,hl,hk⟩ gG
   have hlt:w.heap.size+1<W.heap.size:=(Array.getElem?_eq_some_iff.1 hl).1
   have V9:¬ fp W (w.heap.size+1):=fun h=>by have:=dG pre W _ hi h;omega
   have PL:¬ fp W w.heap.size:=fun h=>by have:=dG pre W _ hi h;omega
   have hy:=run_yield (P:=P) (args:=encs x) hl (by rw [fG];exact V8 x)
   rw [fG] at hy
   refine ⟨fn,_,assign,body,hy,roundIn_of_wpIn hfn (qJ _ x W _ ⟨_,run_beginRound hl (by rw [fG]),?_⟩)⟩
   have hl2:(W.putObj (w.heap.size+1) (.loop {rec .ready none with state := .busy})).heap[w.heap.size+1]? = some (.loop {rec .ready none with state := .busy}):=World.putObj_heap_same hlt
   have hk2:(W.putObj (w.heap.size+1) (.loop {rec .ready none with state := .busy})).heap[w.heap.size]? = some (.deferred (some [])):=(World.putObj_heap_other (by omega)).trans hk
   have hg2:=grownBy_putObj' W (w.heap.size+1) (.loop {rec .ready none with state := .busy})
   obtain ⟨GU,hf2⟩:=hI pre _ _ hi (Fz.of_grown hg2 (fun k e=>by cases e;exact ⟨by omega,V9⟩))
   have TI:(W.putObj (w.heap.size+1) (.loop {rec .ready none with state := .busy})).heap.size=W.heap.size:=by simp [World.putObj]
   generalize W.putObj (w.heap.size+1) (.loop {rec .ready none with state := .busy})=W2 at *
   refine wpIn_mono (D5 _ pre x _ GU gG (by omega)) ?_
   have fin:∀ (jump:Option Code) (W3:World),Kf fp W2 W3->
     (Instr.endRound (w.heap.size+1) jump).run P W3 = .ok (.bool jump.isNone) (W3.putObj (w.heap.size+1) (.loop (rec (if jump.isNone then .ready else .done) jump)))/\
     W3.heap[w.heap.size+1]? = some (.loop {rec .ready none with state := .busy})/\
     (W3.putObj (w.heap.size+1) (.loop (rec (if jump.isNone then .ready else .done) jump))).heap[w.heap.size+1]? = some (.loop (rec (if jump.isNone then .ready else .done) jump))/\
     (W3.putObj (w.heap.size+1) (.loop (rec (if jump.isNone then .ready else .done) jump))).heap[w.heap.size]? = some (.deferred (some [])):=fun jump W3 hk3=>by
    have yW:=(hk3.block _ (by omega) (fun h=>V9 ((hf2 _).1 h))).trans hl2
    have i8:=(hk3.block _ (by omega) (fun h=>PL ((hf2 _).1 h))).trans hk2
    have:=run_endRound (P:=P) jump yW
    rw [fG] at this ⊢
    exact ⟨this,by rw [fG] at yW;exact yW,World.putObj_heap_same (Array.getElem?_eq_some_iff.1 yW).1,(World.putObj_heap_other (by omega)).trans i8⟩
   rintro e a3 W3 hp
   cases e with
   | normal=>
    obtain ⟨hk3,yX⟩:=hp
    obtain ⟨hr,yW,hl4,hk4⟩:=fin none W3 hk3
    have hn3:¬ fp W3 (w.heap.size+1):=fun h=>by have:=dG _ W3 _ yX h;omega
    have hg4:=grownBy_putObj' W3 (w.heap.size+1) (.loop (rec .ready none))
    obtain ⟨NY,hf4⟩:=hI _ _ _ yX (Fz.of_grown hg4 (fun k e=>by cases e;exact ⟨by omega,hn3⟩))
    refine ⟨_,_,hr,.inl ⟨rfl,⟨NY,hl4,hk4⟩,?_⟩⟩
    refine ⟨hg4.os.trans (hk3.os.trans hg2.os),hg4.tape.trans (hk3.tape.trans hg2.tape),hg4.output.trans (hk3.output.trans hg2.output),Nat.le_trans hg2.size (Nat.le_trans hk3.size hg4.size),fun k dS KZ=>?_,fun k hf=>?_⟩
    ·by_cases e:k=w.heap.size+1
     ·subst e
      exact hl4.trans hl.symm
     ·exact (hg4.block k (by have:=hk3.size;omega) (by simpa using e)).trans ((hk3.block k (by omega) (fun h=>KZ ((hf2 k).1 h))).trans (hg2.block k dS (by simpa using e)))
    ·rcases hk3.new k ((hf4 k).1 hf) with h | h
     ·exact .inl ((hf2 k).1 h)
     ·exact .inr (by omega)
   | ret=>
    obtain ⟨hk3,yX⟩:=hp
    obtain ⟨hr,yW,hl4,hk4⟩:=fin (some .ret) W3 hk3
    have hg4:=grownBy_putObj' W3 (w.heap.size+1) (.loop (rec .done (some .ret)))
    refine ⟨_,_,hr,.inr ⟨rfl,⟨UQ _ W3 _ yX (fun k _ hz=>World.putObj_heap_other (by omega)) (by simp [World.putObj]) rfl rfl rfl,hl4,hk4⟩,?_⟩⟩
    refine ⟨hg4.os.trans (hk3.os.trans hg2.os),hg4.tape.trans (hk3.tape.trans hg2.tape),hg4.output.trans (hk3.output.trans hg2.output),Nat.le_trans hg2.size (Nat.le_trans hk3.size hg4.size),fun k dS KZ=>?_,fun k hf=>?_⟩
    ·have e:k≠w.heap.size+1:=fun e=>KZ (.inr e)
     exact (hg4.block k (by have:=hk3.size;omega) (by simpa using e)).trans ((hk3.block k (by omega) (fun h=>KZ (.inl ((hf2 k).1 h)))).trans (hg2.block k dS (by simpa using e)))
    ·rcases hf with hf | hf
     ·exact .inl (.inl ((aHF _ _ k).1 hf))
     ·exact .inl (.inr hf)
   | exit id=>exact hp.elim
   | goto t=>exact hp.elim
   | panic ch=>exact hp.elim
   | outgrown=>exact hp.elim
  ·
   rintro e W2 ⟨⟨v,rfl⟩,(⟨xs,hS,hi,hl,hk⟩ | ⟨pre,hSp,hi,hl,hk⟩)⟩
   ·have PN:¬ fp W2 (w.heap.size+1):=fun h=>by have:=dG _ W2 _ hi h;omega
    exact ⟨none,_,by have:=run_endLoop (P:=P) hl (by rw [fG];simp);rw [fG] at this;exact this,hdone _ xs _ rfl hS (hI _ _ _ hi (Fz.of_grown (grownBy_putObj' W2 (w.heap.size+1) _) (fun k e=>by cases e;exact ⟨by omega,PN⟩))).1 ((World.putObj_heap_other (by omega)).trans hk)⟩
   ·exact ⟨some .ret,_,by have:=run_endLoop (P:=P) hl (by rw [fG];simp);rw [fG] at this;exact this,uQ _ pre _ rfl hSp (UQ _ W2 _ hi (fun k _ hz=>World.putObj_heap_other (by omega)) (by simp [World.putObj]) rfl rfl rfl) ((World.putObj_heap_other (by omega)).trans hk)⟩
def aG6 {α:Type} (F:Fence) (n:Nat) (P:Program) (g:Nat) (lb:Array Value) (encs:α->Array Value) (fp:World->Nat->Prop) (cR:Bool) (Ok:List α->α->World->Prop) (S Sp:List α->Prop) (w:World):Prop:=
 ∀ (l:Nat) (J Jx:List α->World->Prop) (W:World),w.grownBy W none->
  (∀ pre A A',J pre A->Fz W.heap.size fp A A'->J pre A'/\∀ k,fp A' k↔fp A k)->(∀ pre A A',Jx pre A->Fz W.heap.size fp A A'->Jx pre A')->(cR=true->∀ pre A,J pre A->∀ k,fp A k->k<A.heap.size)->
  (∀ pre x W1,J pre W1->Ok pre x W1->YieldAt F (n-1) P l (encs x) W1 fun e W' =>
   (e = .returned (.bool true)/\J (pre++[x]) W'/\Kf fp W1 W')\/(e = .returned (.bool false)/\Jx (pre++[x]) W'))->
  J [] W->
  CallsIn F n P g (#[.func (.yield l) #[] #[]]++lb) W fun e W'=>(∃ v,e = .returned v)/\((∃ xs,S xs/\J xs W')\/(∃ pre,Sp pre/\Jx pre W'))
variable {F:Fence} {n:Nat} {P:Program}
theorem AP {α:Type} {g:Operand} {ps:Array Tmp} {assign body:Code} {Q:Exit->Act->World->Prop} {a:Act} {w:World}
  (hro:F.round=none) (h1:1<=n) {gf:Nat} {lb:Array Value} (hg:a.eval g = .func (.func gf) #[] lb) (hFg:F.fn gf) (eg:∀ args w,(callFunc gf args).run P w = .ok (.enter gf args) w)
  {encs:α->Array Value} {fp:World->Nat->Prop} {cR:Bool} {Ok:List α->α->World->Prop} {S Sp:List α->Prop} (hseq:aG6 F (n-1) P gf lb encs fp cR Ok S Sp w) (V8:∀ x,(encs x).size=ps.size)
  (LE:∀ pre x A A',Ok pre x A->(∀ (k:Nat) (c:Array Value) (t:TypeId) (f:Nat×Nat),A.heap[k]? = some (.cells c t f)->A'.heap[k]? = some (.cells c t f))->Ok pre x A')
  (I Ix:List α->World->Prop) (hI:∀ pre A A',I pre A->Fz w.heap.size fp A A'->I pre A'/\∀ k,fp A' k↔fp A k) (UQ:∀ pre A A',Ix pre A->(∀ k,k<A.heap.size->(k<w.heap.size\/w.heap.size+2<=k)->A'.heap[k]? = A.heap[k]?)->A'.heap.size=A.heap.size->A'.os=A.os->A'.tape=A.tape->A'.output=A.output->Ix pre A')
  (hIy:∀ pre A A',Ix pre A->Fz w.heap.size fp A A'->Ix pre A')
  (dG:∀ pre A k,I pre A->fp A k->k<w.heap.size\/w.heap.size+2<=k) (XM:cR=true->∀ pre A,I pre A->∀ k,fp A k->k<A.heap.size)
  (h0:I [] w) (a₁:α->Act)
  (qJ:∀ (l:Nat) (x:α) (W:World) (K:Act->World->Prop),K (a₁ x) W->
   assign.wpIn (F.inRound l) (n-1-1) P (Exit.then K (fun _ _ _=>False)) {tmps:=(ps.zip (encs x)).foldl (fun t (p,v)=>t.setIfInBounds p v) a.tmps,defers:=[]} W)
  (D5:∀ (l:Nat) (pre:List α) (x:α) (W:World),I pre W->Ok pre x W->w.heap.size+2<=W.heap.size->body.wpIn (F.inRound l) (n-1-1) P (wY fp I Ix (pre++[x]) W) (a₁ x) W)
  (hdone:∀ (D:Nat) (xs:List α) (W:World),D=w.heap.size->S xs->I xs W->W.heap[D]? = some (.deferred (some []))->Q .normal {a with defers:={target := .collected D,args := #[]}::a.defers} W)
  (uQ:∀ (D:Nat) (pre:List α) (W:World),D=w.heap.size->Sp pre->Ix pre W->W.heap[D]? = some (.deferred (some []))->Code.ret.wpIn F n P Q {a with defers:={target := .collected D,args := #[]}::a.defers} W):
  (Code.rangeFunc g ps assign body).wpIn F n P Q a w:=by
 refine wpIn_rangeFunc ?_
 intro fn hfn
 rw [hro]
 obtain ⟨rec,fG⟩:∃ rec:LoopState->Option Code->Loop,rec=fun st pe=>{state:=st,pending:=pe,fn,tmps:=a.tmps,params:=ps,assign,body,defers:=w.heap.size}:=⟨_,rfl⟩
 obtain ⟨W1,hW1⟩:∃ W1,(w.alloc (.deferred (some []))).alloc (.loop (rec .ready none))=W1:=⟨_,rfl⟩
 have wF:W1.heap[w.heap.size+1]? = some (.loop (rec .ready none)):=by
  rw [← hW1];have:=World.alloc_heap_new (w.alloc (.deferred (some []))) (.loop (rec .ready none));rwa [World.size_alloc] at this
 have cO:W1.heap[w.heap.size]? = some (.deferred (some [])):=by
  rw [← hW1];exact (Below.heap_alloc _ _ _ (by simp)).trans (World.alloc_heap_new w _)
 have hs1:W1.heap.size=w.heap.size+2:=by rw [← hW1];simp
 have hg1:w.grownBy W1 none:=by rw [← hW1];exact (World.grownBy_alloc w _ none).trans (World.grownBy_alloc _ _ _)
 have hz1:Fz w.heap.size fp w W1:=Fz.of_grown hg1 (fun k e=>by cases e)
 have LI:=hI [] w W1 h0 hz1
 refine ⟨w.heap.size+1,[{target := .collected w.heap.size,args := #[]}],W1,{target := .fn (.func gf) lb,args := #[.func (.yield (w.heap.size+1)) #[] #[]]},W1,gf,
  #[.func (.yield (w.heap.size+1)) #[] #[]]++lb,W1,?_,?_,?_,?_,fun _=>h1,?_⟩
 ·rw [← hW1,fG];exact run_enterLoop_outer _ _ _ _ _
 ·simp only [resolve,hg]
  simp [go_sem]
 ·intro f' hf';simp [Target.leads] at hf';subst hf';exact hFg
 ·simp [invoke,go_sem,eg]
 ·refine (hseq (w.heap.size+1)
   (fun pre W=>I pre W/\W.heap[w.heap.size+1]? = some (.loop (rec .ready none))/\W.heap[w.heap.size]? = some (.deferred (some [])))
   (fun pre W=>Ix pre W/\W.heap[w.heap.size+1]? = some (.loop (rec .done (some .ret)))/\W.heap[w.heap.size]? = some (.deferred (some [])))
   W1 hg1
   (fun pre A A' hs hz=>?_) (fun pre A A' hs hz=>?_) (fun fZ pre A hs k hk=>XM fZ pre A hs.1 k hk) ?_ ⟨LI.1,wF,cO⟩).mono ?_
  ·obtain ⟨q1,q2⟩:=hI pre A A' hs.1 (hz.mono (by omega))
   exact ⟨⟨q1,(hz.block _ (Array.getElem?_eq_some_iff.1 hs.2.1).1 (.inl (by omega))).trans hs.2.1,(hz.block _ (Array.getElem?_eq_some_iff.1 hs.2.2).1 (.inl (by omega))).trans hs.2.2⟩,q2⟩
  ·exact ⟨hIy pre A A' hs.1 (hz.mono (by omega)),(hz.block _ (Array.getElem?_eq_some_iff.1 hs.2.1).1 (.inl (by omega))).trans hs.2.1,(hz.block _ (Array.getElem?_eq_some_iff.1 hs.2.2).1 (.inl (by omega))).trans hs.2.2⟩
  ·
   rintro pre x W ⟨hi,hl,hk⟩ gG
   have hlt:w.heap.size+1<W.heap.size:=(Array.getElem?_eq_some_iff.1 hl).1
   have V9:¬ fp W (w.heap.size+1):=fun h=>by have:=dG pre W _ hi h;omega
   have PL:¬ fp W w.heap.size:=fun h=>by have:=dG pre W _ hi h;omega
   have hy:=run_yield (P:=P) (args:=encs x) hl (by rw [fG];exact V8 x)
   rw [fG] at hy
   refine ⟨fn,_,assign,body,hy,roundIn_of_wpIn hfn (qJ _ x W _ ⟨_,run_beginRound hl (by rw [fG]),?_⟩)⟩
   have hl2:(W.putObj (w.heap.size+1) (.loop {rec .ready none with state := .busy})).heap[w.heap.size+1]? = some (.loop {rec .ready none with state := .busy}):=World.putObj_heap_same hlt
   have hk2:(W.putObj (w.heap.size+1) (.loop {rec .ready none with state := .busy})).heap[w.heap.size]? = some (.deferred (some [])):=(World.putObj_heap_other (by omega)).trans hk
   have hg2:=grownBy_putObj' W (w.heap.size+1) (.loop {rec .ready none with state := .busy})
   obtain ⟨GU,hf2⟩:=hI pre _ _ hi (Fz.of_grown hg2 (fun k e=>by cases e;exact ⟨by omega,V9⟩))
   have TI:(W.putObj (w.heap.size+1) (.loop {rec .ready none with state := .busy})).heap.size=W.heap.size:=by simp [World.putObj]
   have aGY:Ok pre x (W.putObj (w.heap.size+1) (.loop {rec .ready none with state := .busy})):=LE pre x _ _ gG (fun k c t f hc=>by
    have aCE:k≠w.heap.size+1:=fun e=>by rw [e,hl] at hc;cases hc
    exact (World.putObj_heap_other aCE).trans hc)
   generalize W.putObj (w.heap.size+1) (.loop {rec .ready none with state := .busy})=W2 at *
   refine wpIn_mono (D5 _ pre x _ GU aGY (by omega)) ?_
   have fin:∀ (jump:Option Code) (W3:World),Kf fp W2 W3->
     (Instr.endRound (w.heap.size+1) jump).run P W3 = .ok (.bool jump.isNone) (W3.putObj (w.heap.size+1) (.loop (rec (if jump.isNone then .ready else .done) jump)))/\
     W3.heap[w.heap.size+1]? = some (.loop {rec .ready none with state := .busy})/\
     (W3.putObj (w.heap.size+1) (.loop (rec (if jump.isNone then .ready else .done) jump))).heap[w.heap.size+1]? = some (.loop (rec (if jump.isNone then .ready else .done) jump))/\
     (W3.putObj (w.heap.size+1) (.loop (rec (if jump.isNone then .ready else .done) jump))).heap[w.heap.size]? = some (.deferred (some [])):=fun jump W3 hk3=>by
    have yW:=(hk3.block _ (by omega) (fun h=>V9 ((hf2 _).1 h))).trans hl2
    have i8:=(hk3.block _ (by omega) (fun h=>PL ((hf2 _).1 h))).trans hk2
    have:=run_endRound (P:=P) jump yW
    rw [fG] at this ⊢
    exact ⟨this,by rw [fG] at yW;exact yW,World.putObj_heap_same (Array.getElem?_eq_some_iff.1 yW).1,(World.putObj_heap_other (by omega)).trans i8⟩
   rintro e a3 W3 hp
   cases e with
   | normal=>
    obtain ⟨hk3,yX⟩:=hp
    obtain ⟨hr,yW,hl4,hk4⟩:=fin none W3 hk3
    have hn3:¬ fp W3 (w.heap.size+1):=fun h=>by have:=dG _ W3 _ yX h;omega
    have hg4:=grownBy_putObj' W3 (w.heap.size+1) (.loop (rec .ready none))
    obtain ⟨NY,hf4⟩:=hI _ _ _ yX (Fz.of_grown hg4 (fun k e=>by cases e;exact ⟨by omega,hn3⟩))
    refine ⟨_,_,hr,.inl ⟨rfl,⟨NY,hl4,hk4⟩,?_⟩⟩
    refine ⟨hg4.os.trans (hk3.os.trans hg2.os),hg4.tape.trans (hk3.tape.trans hg2.tape),hg4.output.trans (hk3.output.trans hg2.output),Nat.le_trans hg2.size (Nat.le_trans hk3.size hg4.size),fun k dS KZ=>?_,fun k hf=>?_⟩
    ·by_cases e:k=w.heap.size+1
     ·subst e
      exact hl4.trans hl.symm
     ·exact (hg4.block k (by have:=hk3.size;omega) (by simpa using e)).trans ((hk3.block k (by omega) (fun h=>KZ ((hf2 k).1 h))).trans (hg2.block k dS (by simpa using e)))
    ·rcases hk3.new k ((hf4 k).1 hf) with h | h
     ·exact .inl ((hf2 k).1 h)
     ·exact .inr (by omega)
   | ret=>
    obtain ⟨hk3,yX⟩:=hp
    obtain ⟨hr,yW,hl4,hk4⟩:=fin (some .ret) W3 hk3
    refine ⟨_,_,hr,.inr ⟨rfl,UQ _ W3 _ yX (fun k _ hz=>World.putObj_heap_other (by omega)) (by simp [World.putObj]) rfl rfl rfl,hl4,hk4⟩⟩
   | exit id=>exact hp.elim
   | goto t=>exact hp.elim
   | panic ch=>exact hp.elim
   | outgrown=>exact hp.elim
  ·
   rintro e W2 ⟨⟨v,rfl⟩,(⟨xs,hS,hi,hl,hk⟩ | ⟨pre,hSp,hi,hl,hk⟩)⟩
   ·have PN:¬ fp W2 (w.heap.size+1):=fun h=>by have:=dG _ W2 _ hi h;omega
    exact ⟨none,_,by have:=run_endLoop (P:=P) hl (by rw [fG];simp);rw [fG] at this;exact this,hdone _ xs _ rfl hS (hI _ _ _ hi (Fz.of_grown (grownBy_putObj' W2 (w.heap.size+1) _) (fun k e=>by cases e;exact ⟨by omega,PN⟩))).1 ((World.putObj_heap_other (by omega)).trans hk)⟩
   ·exact ⟨some .ret,_,by have:=run_endLoop (P:=P) hl (by rw [fG];simp);rw [fG] at this;exact this,uQ _ pre _ rfl hSp (UQ _ W2 _ hi (fun k _ hz=>World.putObj_heap_other (by omega)) (by simp [World.putObj]) rfl rfl rfl) ((World.putObj_heap_other (by omega)).trans hk)⟩
end Go.Proofs.YtlljggefbngkeaaGreatDoor
