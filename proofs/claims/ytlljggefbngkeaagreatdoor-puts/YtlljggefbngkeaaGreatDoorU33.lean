import Derived.Test.YtlljggefbngkeaaGreatDoorU32
import Derived.WideKeyEntry
set_option maxRecDepth 1000000
set_option maxHeartbeats 6400000
namespace Go.Proofs.YtlljggefbngkeaaGreatDoor
open Go.RowKit Go.Shelf Go.Maps
open Go.ChangeMaps (setBlock)
theorem yL:WideMaps.KeyLaw Tryz.prog 211:=deep_law_laid Tryz.laidOutP (m:=2) (by omega) Tryz.rowPair (by kernel_rfl) Tryz.widePair
theorem wZ {α:Type} {a b:α} {w w':World} (h:Result.ok a w=Result.ok b w'):w=w':=by cases h;rfl
theorem aC1 {α:Type} {a b:α} {w w':World} (h:Result.ok a w=Result.ok b w'):a=b:=by cases h;rfl
theorem L0 {w:World} {b:Nat} {o:Obj} (h:w.heap[b]? = some o):setBlock w b o=w:=by
 unfold setBlock
 have:w.heap.setIfInBounds b o=w.heap:=by
  apply Array.ext_getElem?
  intro i
  by_cases e:b=i
  ·subst e
   rw [h,Array.getElem?_setIfInBounds_self_of_lt (aD h)]
  ·rw [Array.getElem?_setIfInBounds_ne e]
 rw [this]
theorem aA4 {w:World} {b n it:Nat} {D:DataW Unit} {pre:List P3} {pr:P3} (h:TM w b n pre it D) (hn:n<=1000000) (hr:k9 n pr) (hit:it<1000000000000):
  ∃ (c:Nat) (v0:Value) (st:Nat) (w1 w2:World),(Instr.lookup 234 (.map (some b)) (nC pr) false).run Tryz.prog w = .ok (.int .i64 (c:Int)) w/\
   (Instr.mapEntry 234 (.map (some b)) (nC pr)).run Tryz.prog w = .ok (.tuple #[v0,goInt st]) w1/\
   (Instr.lookup 234 (.map (some b)) (nC pr) false).run Tryz.prog w1 = .ok (.int .i64 (c:Int)) w1/\
   (Instr.entryStore 234 (.map (some b)) (goInt st) (.int .i64 ((c:Int)+1))).run Tryz.prog w1 = .ok () w2/\
   c<=it/\(1<=c↔pr∈pre)/\w.grownBy w2 (some b)/\∃ D',TM w2 b n (if pr∈pre then pre else pre++[pr]) (it+1) D' /\
    (Instr.lookup 234 (.map (some b)) (nC pr) false).run Tryz.prog w2 = .ok (.int .i64 ((c:Int)+1)) w2:=by
 have ht:=Tryz.underlying234
 have hi:=Tryz.underlying3
 have hk:=ZL hr hn
 obtain ⟨c0,hl0,aFM,aI8⟩:=h.own.lookup_int gW ht hi (AN _) hk
 obtain ⟨c,hc,xL,nY⟩:=h.val pr hr
 have hcc:c0=(c:Int):=by rw [aFM] at hc;simpa using hc
 subst hcc
 obtain ⟨es,clock,hb,F,hsz,hD⟩:=h.own
 obtain ⟨v0,st,es1,clock1,nP,_,hE4⟩:=WideElems.entry_then_store yL ht (z := .int .i64 0) (fun u=>AN u) hb F hk
 have hb1:(setBlock w b (.map es1 clock1)).heap[b]? = some (.map es1 clock1):=ChangeMaps.heap_setBlock_same hb _
 obtain ⟨es',clock',hS,hU⟩:=hE4 _ (.int .i64 ((c:Int)+1)) hb1
 obtain ⟨w2,aBE,hown2,hg2⟩:=h.own.update gW ht (by unfold maxLen;omega) hk (plainElem_int (H:=Unit) hi (a:=(c:Int)+1) (WalkArith.wf_i64 (by omega)))
 have hw2:setBlock (setBlock w b (.map es1 clock1)) b (.map es' clock')=w2:=by
  rw [hU] at aBE
  have e2:=wZ aBE
  rw [← e2]
  unfold setBlock
  simp
 rw [hw2] at hS
 have oN:(Instr.lookup 234 (.map (some b)) (nC pr) false).run Tryz.prog (setBlock w b (.map es1 clock1)) = .ok (.int .i64 (c:Int)) (setBlock w b (.map es1 clock1)):=by
  rcases yL.find w hk es.toList F.keys with ⟨h1,h2⟩ | ⟨j,e0,h1,h2,h3⟩
  ·have hm:(Instr.mapEntry 234 (.map (some b)) (nC pr)).run Tryz.prog w = .ok (.tuple #[.int .i64 0,goInt clock]) (setBlock w b (.map (es.push ⟨nC pr,.int .i64 0,clock⟩) (clock+1))):=by
    simp [Instr.mapEntry,run_underlying ht,MapKept.run_getObj_map hb,yL.check w false hk,h1,MapKept.run_setObj_map _ hb,Result.andThen,setBlock]
   have hu0:(Instr.mapUpdate 234 (.map (some b)) (nC pr) (.int .i64 0)).run Tryz.prog w = .ok () (setBlock w b (.map (es.push ⟨nC pr,.int .i64 0,clock⟩) (clock+1))):=by
    simp [Instr.mapUpdate,run_underlying ht,MapKept.run_getObj_map hb,yL.check w false hk,h1,MapKept.run_setObj_map _ hb,Result.andThen,setBlock]
   have aH6:(Instr.lookup 234 (.map (some b)) (nC pr) false).run Tryz.prog w = .ok (.int .i64 0) w:=by
    rcases Maps.fit_look false gW ht (AN w) hb F hk with ⟨hrun,_,_⟩ | ⟨e0,y,qZ,lV,_,_,_,_⟩
    ·exact hrun
    ·exact absurd lV (h2 e0 qZ)
   have hc0:(c:Int)=0:=by
    rw [aH6] at hl0
    have e1:=aC1 hl0
    injection e1 with _ e1
    exact e1.symm
   have dC:setBlock w b (.map es1 clock1)=setBlock w b (.map (es.push ⟨nC pr,.int .i64 0,clock⟩) (clock+1)):=by
    rw [hm] at nP
    exact (wZ nP).symm
   rw [dC]
   obtain ⟨wu,hru,aEM,_⟩:=h.own.update gW ht (by unfold maxLen;omega) hk (plainElem_int (H:=Unit) hi (a:=0) (by decide))
   rw [hu0] at hru
   rw [wZ hru]
   obtain ⟨c1,oN,UF,_⟩:=aEM.lookup_int gW ht hi (AN _) hk
   have WZ:Tidy D:=h.own.tidy gW
   rw [atKey_put_same WZ.isMap (gW.key hk)] at UF
   have:c1=0:=by simpa using UF.symm
   rw [oN,this,hc0]
  ·have hj:es[j]? = some e0:=by simpa using h2
   have aEJ:es.modify j (fun e=>{e with key:=nC pr})=es:=by
    apply Array.ext'
    rw [Array.toList_modify,ChangeMaps.modify_eq_set _ _ _ _ h2]
    have:({e0 with key:=nC pr}:MapEntry)=e0:=by rw [← h3]
    rw [this]
    exact WideElems.set_self _ _ _ h2
   have hm:(Instr.mapEntry 234 (.map (some b)) (nC pr)).run Tryz.prog w = .ok (.tuple #[e0.val,goInt e0.born]) (setBlock w b (.map es clock)):=by
    simp [Instr.mapEntry,run_underlying ht,MapKept.run_getObj_map hb,yL.check w false hk,h1,hj,h3,yL.stays w hk,aEJ,MapKept.run_setObj_map _ hb,Result.andThen,setBlock]
   have dC:setBlock w b (.map es1 clock1)=w:=by
    rw [hm] at nP
    rw [← wZ nP,L0 hb]
   rw [dC]
   exact hl0
 have q8:=h.step hn hr aFM hown2
 refine ⟨c,v0,st,_,w2,hl0,nP,oN,hS,xL,nY,hg2,_,q8,?_⟩
 obtain ⟨c2,hl2,aFL,_⟩:=hown2.lookup_int gW ht hi (AN _) hk
 have WZ:Tidy D:=h.own.tidy gW
 rw [atKey_put_same WZ.isMap (gW.key hk)] at aFL
 have:c2=(c:Int)+1:=by simpa using aFL.symm
 rw [hl2,this]
end Go.Proofs.YtlljggefbngkeaaGreatDoor
namespace Go.Proofs.YtlljggefbngkeaaGreatDoor
open Go.RowKit Go.Shelf Go.Maps
attribute [local go_sem] Oper.semAt_some
def aD2 (x:Nat×P3):Array Value := #[.pointer (some ⟨x.1,0,none⟩)]
def OkV (F:List cA) (gate beh:Nat) (s0:P3) (_:List (Nat×P3)) (x:Nat×P3) (A:World):Prop:=∃ N u,VR F gate beh s0 N A x.1 x.2 u/\u.length<=100000000
def aI4 (F:List cA) (gate beh:Nat) (s0:P3) (xs:List (Nat×P3)):Prop:=∀ u pr,Way F gate beh s0 u pr->pr∈cS xs
def aHV (wm:World) (Br mb sb gate beh Bs N:Nat) (F:List cA) (s0:P3) (J:List (Nat×P3)->World->Prop) (v5:Value) (A:World):Prop:=
 ∃ pre it D gs prs,VB wm Br mb sb gate beh Bs N F J pre it D A/\VW N F gate beh s0 (cS pre).length A v5 gs prs/\VC F gate beh s0 (cS pre) prs []/\VD F.length it 0 gs.length 0 (cS pre).length
def VIn (wm:World) (Br mb sb gate beh Bs N:Nat) (F:List cA) (s0:P3) (J:List (Nat×P3)->World->Prop) (m0:Nat) (v5 v6:Value) (k:Nat) (A:World):Prop:=
 ∃ pre it D gs hs prs qrs,k<=gs.length/\VB wm Br mb sb gate beh Bs N F J pre it D A/\VW N F gate beh s0 (cS pre).length A v5 gs prs/\VW N F gate beh s0 (cS pre).length A v6 hs qrs/\(∀ j,v5.ownBlock=some j->v6.ownBlock≠some j)/\
  VC F gate beh s0 (cS pre) (prs.drop k) qrs/\VD F.length it k gs.length hs.length (cS pre).length/\m0<=(cS pre).length/\(hs≠[]->m0<(cS pre).length)
theorem kM {A:World} {N it:Nat} {D:DataW Unit} {v:Value} {n:Nat} {xs:List Value} {e:TypeId} {sz:Nat} (hm:A.ownsMap Tryz.prog 211 (plainElem Tryz.prog 3) N it D) (ho:A.ownsRow 0 e sz v n xs):v.ownBlock≠some N:=by
 intro h
 obtain ⟨es,ck,h9,_⟩:=hm
 rcases ho.2 with ⟨h1,_⟩ | ⟨g,cap,cur,h1,_,h2,_⟩
 ·subst h1;cases h
 ·subst h1
  simp [Value.ownBlock] at h
  subst h
  rw [h9] at h2
  cases h2
theorem Kv.of_map {N M:Nat} {A A':World} {es:Array MapEntry} {ck:Nat} (h9:A.heap[N]? = some (.map es ck)) (hg:A.grownBy A' (some N)):Kv M A A':=fun k pr fr c _ hk=>
 (hg.block k (aD hk) (fun e=>by injection e with e;subst e;rw [h9] at hk;cases hk)).trans hk
theorem S8 {α:Type} {l:List α} {k:Nat} {x:α} (h:l[k]? = some x):l.drop k=x::l.drop (k+1):=by
 obtain ⟨hk,he⟩:=List.getElem?_eq_some_iff.1 h
 rw [List.drop_eq_getElem_cons hk,he]
theorem VIn.old {wm:World} {Br mb sb gate beh Bs N:Nat} {F:List cA} {s0:P3} {J:List (Nat×P3)->World->Prop} {m0 k it:Nat} {v5 v6:Value} {wr w2:World} {pre:List (Nat×P3)} {D D':DataW Unit} {gs hs:List Nat} {prs qrs:List P3} {pr:P3}
  (nZ:VB wm Br mb sb gate beh Bs N F J pre it D wr) (uH:VW N F gate beh s0 (cS pre).length wr v5 gs prs) (j6:VW N F gate beh s0 (cS pre).length wr v6 hs qrs) (hap:∀ j,v5.ownBlock=some j->v6.ownBlock≠some j)
  (vQ:VC F gate beh s0 (cS pre) (prs.drop k) qrs) (sP:VD F.length it k gs.length hs.length (cS pre).length) (qZ:m0<=(cS pre).length) (lV:hs≠[]->m0<(cS pre).length) (hlt:k<gs.length) (hp:prs[k]? = some pr)
  (q8:TM w2 N F.length (if pr∈cS pre then cS pre else cS pre++[pr]) (it+1) D') (GN:pr∈cS pre) (hg:wr.grownBy w2 (some N)) (hj:J pre w2) (hne:∀ k,((k<wm.heap.size/\k≠Br)\/k=sb\/k=Bs\/k=1)->k≠N):
  VIn wm Br mb sb gate beh Bs N F s0 J m0 v5 v6 (k+1) w2:=by
 rw [if_pos GN] at q8
 obtain ⟨es,ck,h9,_⟩:=nZ.tm.own
 have EI:Kv N wr w2:=Kv.of_map h9 hg
 refine ⟨pre,it+1,D',gs,hs,prs,qrs,hlt,⟨hj,q8,nZ.nd,nZ.rg,nZ.ve.move hg.os hg.tape hg.output hg.size (fun k hk hz=>hg.block k hk (fun e=>hne k hz (by injection e)))⟩,
  uH.kept (Nat.le_refl _) EI (fun k e=>hg.block k (aJ uH.own k e) (fun e2=>kM nZ.tm.own uH.own (by rw [e,e2]))),
  j6.kept (Nat.le_refl _) EI (fun k e=>hg.block k (aJ j6.own k e) (fun e2=>kM nZ.tm.own j6.own (by rw [e,e2]))),hap,?_,⟨by have:=sP.ki;omega,sP.pl,by have:=sP.bd;omega⟩,qZ,lV⟩
 rw [S8 hp] at vQ
 exact vQ.old GN
structure VS (wm:World) (Br mb sb gate beh Bs N:Nat) (F:List cA) (s0:P3) (A:World) (m:Nat) (v5 v6:Value) (gs hs:List Nat) (prs qrs:List P3) (P:List P3) (it:Nat) (D:DataW Unit) (g:Nat) (pr:P3) (u:List UInt8):Prop where
 ve:VE wm Br mb sb gate beh Bs A
 tm:TM A N F.length P it D
 lv:VW N F gate beh s0 m A v5 gs prs
 nx:VW N F gate beh s0 m A v6 hs qrs
 ap:∀ j,v5.ownBlock=some j->v6.ownBlock≠some j
 vr:VR F gate beh s0 N A g pr u
section
variable {wm:World} {Br mb sb gate beh Bs N:Nat} {F:List cA} {s0:P3} {A A':World} {m:Nat} {v5 v6:Value} {gs hs:List Nat} {prs qrs:List P3} {P:List P3} {it:Nat} {D:DataW Unit} {g:Nat} {pr:P3} {u:List UInt8}
theorem VS.count {P':List P3} {it':Nat} {D':DataW Unit} (hve:VE wm Br mb sb gate beh Bs A) (htm:TM A N F.length P it D) (hlv:VW N F gate beh s0 m A v5 gs prs) (TP:VW N F gate beh s0 m A v6 hs qrs) (hap:∀ j,v5.ownBlock=some j->v6.ownBlock≠some j) (TG:VR F gate beh s0 N A g pr u)
  (q8:TM A' N F.length P' it' D') (hg:A.grownBy A' (some N)) (hne:∀ k,((k<wm.heap.size/\k≠Br)\/k=sb\/k=Bs\/k=1)->k≠N):VS wm Br mb sb gate beh Bs N F s0 A' m v5 v6 gs hs prs qrs P' it' D' g pr u:=by
 obtain ⟨es,ck,h9,_⟩:=htm.own
 have EI:Kv N A A':=Kv.of_map h9 hg
 exact ⟨hve.move hg.os hg.tape hg.output hg.size (fun k hk hz=>hg.block k hk (fun e=>hne k hz (by injection e))),q8,
  hlv.kept (Nat.le_refl _) EI (fun k e=>hg.block k (aJ hlv.own k e) (fun e2=>kM htm.own hlv.own (by rw [e,e2]))),
  TP.kept (Nat.le_refl _) EI (fun k e=>hg.block k (aJ TP.own k e) (fun e2=>kM htm.own TP.own (by rw [e,e2]))),hap,TG.kv EI⟩
theorem VS.round {fp:World->Nat->Prop} (h:VS wm Br mb sb gate beh Bs N F s0 A m v5 v6 gs hs prs qrs P it D g pr u) (hk:Kf fp A A') (hfN:∀ k,fp A k->k<N) (hfe:∀ k,fp A k->¬ ((k<wm.heap.size/\k≠Br)\/k=sb\/k=Bs\/k=1)):
  VS wm Br mb sb gate beh Bs N F s0 A' m v5 v6 gs hs prs qrs P it D g pr u:=by
 have hN:∀ k,k<A.heap.size->N<=k->A'.heap[k]? = A.heap[k]? := fun k hl hn=>hk.block k hl (fun hf=>by have:=hfN k hf;omega)
 have EI:Kv N A A':=fun k pr fr c hn hb=>(hN k (aD hb) hn).trans hb
 obtain ⟨es,ck,h9,_⟩:=h.tm.own
 exact ⟨h.ve.move hk.os hk.tape hk.output hk.size (fun k hl hz=>hk.block k hl (fun hf=>hfe k hf hz)),h.tm.kept (hN N (aD h9) (Nat.le_refl _)),
  h.lv.kept (Nat.le_refl _) EI (fun k e=>hN k (aJ h.lv.own k e) (h.lv.far k e)),h.nx.kept (Nat.le_refl _) EI (fun k e=>hN k (aJ h.nx.own k e) (h.nx.far k e)),h.ap,h.vr.kv EI⟩
theorem VS.nlt (h:VS wm Br mb sb gate beh Bs N F s0 A m v5 v6 gs hs prs qrs P it D g pr u):N<A.heap.size:=by
 obtain ⟨es,ck,h9,_⟩:=h.tm.own
 exact aD h9
theorem VS.free {ns:List Nat} {v5':Value} (h:VS wm Br mb sb gate beh Bs N F s0 A m v5 v6 gs hs prs qrs P it D g pr u) (hNw:wm.heap.size<=N) (hne:∀ k,(k=sb\/k=Bs\/k=1)->k<N) (hu:u.length<=m) (hc:Cl F F.length) (hb:beh<F.length) (hr:k9 F.length pr)
  (hG:eW A g 0 v5 gs ns (fC F gate beh pr) v5' A'):VS wm Br mb sb gate beh Bs N F s0 A' (m+1) v5' v6 (gs++ns) hs (prs++fC F gate beh pr) qrs P it D g pr u:=by
 have EI:Kv N A A':=hG.kv h.lv.own
 refine ⟨h.ve.move hG.kp.os hG.kp.tape hG.kp.output hG.kp.size (fun k hl hz=>hG.kp.block k hl (fun e=>?_)),h.tm.kept (hG.kp.block N h.nlt (kM h.tm.own h.lv.own)),
  h.lv.freely (Nat.le_of_lt h.nlt) (Nat.le_succ _) h.vr (Nat.le_succ_of_le hu) hc hb hr hG,h.nx.kept (Nat.le_succ _) EI (fun k e=>hG.kp.block k (aJ h.nx.own k e) (fun e2=>h.ap k e2 e)),fun j hj e=>?_,h.vr.kv EI⟩
 ·have:=h.lv.far k e
  rcases hz with ⟨hz,_⟩ | hz
  ·omega
  ·have:=hne k hz;omega
 ·rcases hG.at_ j hj with h1 | h1
  ·exact h.ap j h1 e
  ·have:=aJ h.nx.own j e;omega
theorem VS.tog {ns:List Nat} {v6':Value} {c:Nat} (h:VS wm Br mb sb gate beh Bs N F s0 A m v5 v6 gs hs prs qrs P it D g pr u) (hNw:wm.heap.size<=N) (hne:∀ k,(k=sb\/k=Bs\/k=1)->k<N) (hu:u.length<m) (hc:Cl F F.length) (hr:k9 F.length pr)
  (hG:eW A g c v6 hs ns (eO F pr) v6' A') (hcc:eO F pr≠[]->∃ p q,F[pr.2.1]? = some p/\F[pr.2.2]? = some q/\(UInt8.ofNat c)∈p.set/\(UInt8.ofNat c)∈q.set/\c<256/\c≠0):VS wm Br mb sb gate beh Bs N F s0 A' m v5 v6' gs (hs++ns) prs (qrs++eO F pr) P it D g pr u:=by
 have EI:Kv N A A':=hG.kv h.nx.own
 refine ⟨h.ve.move hG.kp.os hG.kp.tape hG.kp.output hG.kp.size (fun k hl hz=>hG.kp.block k hl (fun e=>?_)),h.tm.kept (hG.kp.block N h.nlt (kM h.tm.own h.nx.own)),
  h.lv.kept (Nat.le_refl _) EI (fun k e=>hG.kp.block k (aJ h.lv.own k e) (fun e2=>h.ap k e e2)),h.nx.together (Nat.le_of_lt h.nlt) (Nat.le_refl _) h.vr hu hc hr hG hcc,fun j hj e=>?_,h.vr.kv EI⟩
 ·have:=h.nx.far k e
  rcases hz with ⟨hz,_⟩ | hz
  ·omega
  ·have:=hne k hz;omega
 ·rcases hG.at_ j e with h1 | h1
  ·exact h.ap j hj h1
  ·have:=aJ h.lv.own j hj;omega
theorem VS.done {J:List (Nat×P3)->World->Prop} {pre:List (Nat×P3)} {m0 k:Nat} {gs0 hs0:List Nat} {ns ns2:List Nat} {prs0 qrs0:List P3} (h:VS wm Br mb sb gate beh Bs N F s0 A ((cS pre).length+1) v5 v6 (gs0++ns) (hs0++ns2) (prs0++fC F gate beh pr) (qrs0++eO F pr) (cS pre++[pr]) (it+1) D g pr u)
  (hj:J (pre++[(g,pr)]) A) (hnd:(cS pre).Nodup) (hrg:∀ q,q∈cS pre->k9 F.length q) (GN:pr ∉ cS pre) (hr:k9 F.length pr) (dG:∀ x,bZ F x<=1000) (vQ:VC F gate beh s0 (cS pre) (prs0.drop k) qrs0) (sP:VD F.length it k gs0.length hs0.length (cS pre).length) (hl0:gs0.length=prs0.length) (oN:hs0.length=qrs0.length)
  (qZ:m0<=(cS pre).length) (hlt:k<gs0.length) (hp:prs0[k]? = some pr):VIn wm Br mb sb gate beh Bs N F s0 J m0 v5 v6 (k+1) A:=by
 have nX:cS (pre++[(g,pr)])=cS pre++[pr]:=FN _ _
 have hlen:(cS (pre++[(g,pr)])).length=(cS pre).length+1:=by rw [nX];simp
 have aES:(cS pre++[pr]).Nodup:=by
  rw [List.nodup_append]
  exact ⟨hnd,by simp,fun a ha b hb e=>GN (by rw [List.mem_singleton] at hb;rw [← hb,← e];exact ha)⟩
 have aEK:∀ q,q∈cS pre++[pr]->k9 F.length q:=fun q hq=>by
  rcases List.mem_append.1 hq with hq | hq
  ·exact hrg q hq
  ·rw [List.mem_singleton] at hq
   subst hq
   exact hr
 have uD:=tN aES aEK
 have h1:=R7 (gate:=gate) (beh:=beh) dG pr
 have h2:=FB (F:=F) pr
 have h3:=h.lv.len
 have h4:=h.nx.len
 simp at h3 h4 uD
 rw [S8 hp] at vQ
 refine ⟨pre++[(g,pr)],it+1,D,gs0++ns,hs0++ns2,prs0++fC F gate beh pr,qrs0++eO F pr,by simp;omega,⟨hj,by rw [nX];exact h.tm,by rw [nX];exact aES,by rw [nX];exact aEK,h.ve⟩,by rw [hlen];exact h.lv,by rw [hlen];exact h.nx,h.ap,?_,?_,by rw [hlen];omega,fun _=>by rw [hlen];omega⟩
 ·rw [nX,List.drop_append_of_le_length (by omega)]
  exact vQ.new
 ·rw [hlen]
  have h5:=sP.bd
  have h6:=sP.ki
  refine ⟨by omega,by omega,?_⟩
  simp only [List.length_append]
  generalize F.length*F.length=T at *
  omega
end
theorem EP {wm w:World} {n Br mb sb gate beh Bp Bs:Nat} {F:List cA} {st en:Nat} {s0:P3} {fp:World->Nat->Prop} (hM:MH wm (fun k=>k=Br) mb F st en) (dU:Cl F F.length) (dG:∀ x,bZ F x<=1000) (hS:F.length<=4000) (aCO:beh<F.length) (hr0:k9 F.length s0) (hB:Kp (fun k=>k≠Br) wm w)
  (pK:w.heap[sb]? = some (uO mb gate beh)) (LB:w.heap[Bs]? = some (.cells #[.pointer (some ⟨sb,0,none⟩)] 204 (0,0))) (hbp:w.heap[Bp]? = some (.cells (U7 s0) 211 (0,0))) (hT:nU w)
  (K3:∀ A k,fp A k->k<w.heap.size/\(wm.heap.size<=k\/k=Br)/\k≠sb/\k≠Bs/\k≠Bp/\k≠1):
  aG6 Fence.wide n Tryz.prog 183 #[.pointer (some ⟨Bp,0,none⟩),.pointer (some ⟨Bs,0,none⟩)] aD2 fp true (OkV F gate beh s0) (aI4 F gate beh s0) (fun _=>True) w:=by
 intro l J Jx W hW hJs pC fZ hY h0
 have hmm := @run_makeMap Tryz.prog
 have UC:=(hW.block Bp (aD hbp) (by simp)).trans hbp
 have p0:=aC UC 0
 have p1:=aC UC 1
 have p2:=aC UC 2
 simp [U7] at p0 p1 p2
 have hbl:=aD UC
 have a0:∀ o,(W.alloc o).cell? ⟨Bp,0,none⟩=some (.int .i64 (s0.1:Int)):=fun o=>by rw [World.cell?_alloc_past _ _ _ hbl];exact p0
 have a1:∀ o,(W.alloc o).cell? ⟨Bp,1,none⟩=some (.int .i64 (s0.2.1:Int)):=fun o=>by rw [World.cell?_alloc_past _ _ _ hbl];exact p1
 have a2:∀ o,(W.alloc o).cell? ⟨Bp,2,none⟩=some (.int .i64 (s0.2.2:Int)):=fun o=>by rw [World.cell?_alloc_past _ _ _ hbl];exact p2
 have HE:=aB (And.intro hM (And.intro dU (And.intro dG (And.intro hB (And.intro pK (And.intro LB (And.intro hT (And.intro K3 (And.intro hW (And.intro hJs (And.intro pC (And.intro fZ (And.intro hY h0)))))))))))))
 clear hM dU dG hB pK LB hbp hT K3 hW hJs pC fZ hY h0 UC
 refine callsIn_of_wp Tryz.func183 rfl trivial ?_ rfl
 simp only [Tryz.ntmps183,List.size_toArray,List.length_cons,List.length_nil,Nat.reduceAdd,Nat.reduceSub,Array.replicate_succ,Array.replicate_zero,List.push_toArray,List.append_toArray,List.nil_append,List.cons_append]
 gi_wp2_with fail
 have hN:wm.heap.size<=W.heap.size:=by have:=(aA HE).2.2.2.1.size;have:=(aA HE).2.2.2.2.2.2.2.2.1.size;omega
 obtain ⟨w3,hw3⟩:∃ w3,((W.alloc (.map #[] 0)).alloc (.cells #[.int .i64 (s0.1:Int),.int .i64 (s0.2.1:Int),.int .i64 (s0.2.2:Int),.pointer none,.int .u8 0] 227)).alloc (.cells #[.pointer (some ⟨W.heap.size+1,0,none⟩)] 225)=w3:=⟨_,rfl⟩
 have H0:Hid (VB wm Br mb sb gate beh Bs W.heap.size F J [] 0 (.map []) w3/\VW W.heap.size F gate beh s0 0 w3 (.slice (some ⟨W.heap.size+2,0,none⟩) 1 1) [W.heap.size+1] [s0]):=by
  obtain ⟨hM,dU,dG,hB,pK,LB,hT,K3,hW,hJs,pC,fZ,hY,h0⟩:=aA HE
  have hg3:W.grownBy w3 none:=by rw [← hw3];exact ((World.grownBy_alloc W _ none).trans (World.grownBy_alloc _ _ none)).trans (World.grownBy_alloc _ _ none)
  have hg:=hW.trans hg3
  have hv3:w3.heap[W.heap.size+1]? = some (wJ s0 none 0):=by rw [← hw3];exact heap_alloc_old _ (bC W _ _)
  have CR:w3.heap[W.heap.size]? = (W.alloc (.map #[] 0)).heap[W.heap.size]? := by
   rw [← hw3,Below.heap_alloc _ _ _ (by simp;omega),Below.heap_alloc _ _ _ (by simp)]
  refine ⟨⟨(hJs [] W w3 h0 (Fz.of_grown hg3 (fun k e=>by cases e))).1,(TM.start W F.length).kept CR,List.nodup_nil,fun pr XC=>(by cases XC),?_⟩,⟨?_,fun k hk=>(by simp [Value.ownBlock] at hk;omega),rfl,?_,fun pr XC=>(by rw [List.mem_singleton] at XC;subst XC;exact hr0)⟩⟩
  ·exact (VE.mk hB pK LB hT).move hg.os hg.tape hg.output hg.size (fun k hk _=>hg.block k hk (by simp))
  ·rw [← hw3]
   have:=World.ownsRow_lit (base:=0) (e:=225) (size:=1) ((W.alloc (.map #[] 0)).alloc (.cells #[.int .i64 (s0.1:Int),.int .i64 (s0.2.1:Int),.int .i64 (s0.2.2:Int),.pointer none,.int .u8 0] 227)) #[.pointer (some ⟨W.heap.size+1,0,none⟩)] 1 (Nat.zero_le _) (by unfold maxLen;omega) rfl
   simpa [bD] using this
  ·intro i g pr hg1 eI
   cases i with
   | succ i=>simp at hg1
   | zero=>
    simp at hg1 eI
    subst hg1 eI
    exact ⟨[],VR.root (by omega) hv3,by simp⟩
 rw [hw3]
 clear hw3 a0 a1 a2 p0 p1 p2 hmm hbl
 gi_loopw [5] (fun v5 wr=>aHV wm Br mb sb gate beh Bs W.heap.size F s0 J v5 wr) (fun v5 wr=>2*(4*(F.length*F.length)-ZU wr W.heap.size)+(if wT v5=0 then 0 else 1))
 case atStart=>
  obtain ⟨h1,h2⟩:=aA H0
  exact ⟨[],0,_,_,_,h1,h2,⟨.inr (by simp),fun pr XC=>(by cases XC),fun pr XC=>(by cases XC)⟩,⟨Nat.zero_le _,Nat.zero_le _,by simp [TOT,cS]⟩⟩
 case round=>
  clear H0
  obtain ⟨pre,it,D,gs,prs,nZ,uH,vQ,sP⟩:=hrel
  obtain ⟨ao,cp,rfl⟩:=aG uH.own
  rcases Nat.eq_zero_or_pos gs.length with hg0 | hg0
  ·obtain rfl:=List.eq_nil_of_length_eq_zero hg0
   have hp0:prs=[]:=List.eq_nil_of_length_eq_zero (by rw [← uH.len];rfl)
   subst hp0
   have HI:=aB (And.intro nZ vQ)
   clear nZ uH vQ sP hg0
   gi_wp2_with fail
   go_end0
   exact ⟨⟨_,rfl⟩,.inl ⟨pre,fun u pr hw=>(aA HI).2.all hw,(aA HI).1.j⟩⟩
  ·have xH:(0:Int)<(gs.length:Int):=by omega
   have HI:Hid (VIn wm Br mb sb gate beh Bs W.heap.size F s0 J (cS pre).length (.slice ao gs.length cp) (.slice none 0 0) 0 wr):=aB ⟨pre,it,D,gs,[],prs,[],Nat.zero_le _,nZ,uH,VW.nil _ _,fun k hk e=>(by cases e),by rw [List.drop_zero];exact vQ,sP,Nat.le_refl _,fun h=>absurd rfl h⟩
   have oC:=nZ.tm.count
   have uD:=tN nZ.nd nZ.rg
   have Hcnt:=aB (And.intro oC (And.intro uD (show wT (Value.slice ao gs.length cp)≠0 from fun e=>absurd (show gs.length=0 from e) (by omega))))
   clear nZ uH vQ sP oC uD
   gi_wp2_with fail
   rename World=>wo
   gi_loopw [5,6,7] (fun v5 v6 v7 wr=>∃ k:Nat,v7 = .int .i64 (k:Int)/\VIn wm Br mb sb gate beh Bs W.heap.size F s0 J (cS pre).length v5 v6 k wr) (fun v5 _ v7 wr=>2003*(4*(F.length*F.length)-ZU wr W.heap.size)+(wT v5-(Lib.intOf v7).toNat))
   case atStart=>exact ⟨0,rfl,aA HI⟩
   case round=>
    clear HI
    obtain ⟨k,rfl,qre,it,D,gs,hs,prs,qrs,hk,nZ,uH,j6,hap,vQ,sP,qZ,lV⟩:=hrel
    obtain ⟨ao,cp,rfl⟩:=aG uH.own
    obtain ⟨an,cn,rfl⟩:=aG j6.own
    have oC:=nZ.tm.count
    have uD:=tN nZ.nd nZ.rg
    by_cases hlt:k<gs.length
    ·have hd:(k:Int)<(gs.length:Int):=by omega
     obtain ⟨vb,cap,fM,_,dB⟩:=uH.own.form (by omega)
     injection fM with hao _ nY
     subst hao
     subst nY
     obtain ⟨g,hg⟩:∃ g,gs[k]? = some g:=⟨_,List.getElem?_eq_getElem hlt⟩
     obtain ⟨⟨ph,a,b⟩,hp⟩:∃ pr,prs[k]? = some pr:=⟨_,List.getElem?_eq_getElem (by rw [← uH.len];exact hlt)⟩
     obtain ⟨u,hV,hu⟩:=uH.vr k g _ hg hp
     have K2:=uH.rng _ (List.mem_of_getElem? hp)
     obtain ⟨fr,c4,gS⟩:=hV.blk
     have ck:wr.cell? ⟨vb,k,none⟩=some (.pointer (some ⟨g,0,none⟩)):=by
      rw [uH.own.cellAt k (by omega)]
      simp [bD,hg]
     have e0:wr.cell? ⟨g,0,none⟩=some (.int .i64 (ph:Int)):=by rw [aC gS 0];rfl
     have e1:wr.cell? ⟨g,1,none⟩=some (.int .i64 (a:Int)):=by rw [aC gS 1];rfl
     have e2:wr.cell? ⟨g,2,none⟩=some (.int .i64 (b:Int)):=by rw [aC gS 2];rfl
     have hit:it<1000000000000:=by
      have h1:=sP.bd
      have h2:F.length*F.length<=4000*4000:=Nat.mul_le_mul hS hS
      unfold TOT at h1
      omega
     have eC:gs.length<=1000000000000:=by
      have h1:=sP.bd
      have h3:=sP.ki
      have h2:F.length*F.length<=4000*4000:=Nat.mul_le_mul hS hS
      unfold TOT at h1
      omega
     have hkw:IntKind.i64.wrap ((k:Int)+1)=(k:Int)+1:=IntWalk.i64_in _ (by omega)
     obtain ⟨c,v0,st,w1,w2,E1,E2,E3,E4,xL,zB,hg2,D',q8,E5⟩:=aA4 (w:=wr.drew) (nZ.tm.kept rfl) (by omega) K2 hit
     have hwr:IntKind.i64.wrap ((c:Int)+1)=(c:Int)+1:=IntWalk.i64_in _ (by omega)
     simp only [nC,goInt] at E1 E2 E3 E4 E5
     have hgN:g≠W.heap.size:=fun e=>by
      obtain ⟨es9,ck9,h9,_⟩:=nZ.tm.own
      rw [e,h9] at gS
      cases gS
     have UD:w2.heap[g]? = some (wJ (ph,a,b) fr c4):=(hg2.block g (aD gS) (fun e=>hgN (by injection e))).trans gS
     have f0:w2.cell? ⟨g,0,none⟩=some (.int .i64 (ph:Int)):=by rw [aC UD 0];rfl
     have f1:w2.cell? ⟨g,1,none⟩=some (.int .i64 (a:Int)):=by rw [aC UD 1];rfl
     have f2:w2.cell? ⟨g,2,none⟩=some (.int .i64 (b:Int)):=by rw [aC UD 2];rfl
     have Hb2:=aB (And.intro UD hgN)
     clear UD hgN
     have HI:=aB (And.intro nZ (And.intro uH (And.intro j6 (And.intro hap (And.intro vQ (And.intro sP (And.intro qZ (And.intro lV (And.intro oC (And.intro uD (And.intro hg (And.intro hp (And.intro hV (And.intro hu (And.intro K2 (And.intro gS (And.intro q8 (And.intro hg2 (And.intro xL zB)))))))))))))))))))
     clear nZ uH j6 hap vQ sP qZ lV oC uD hg hp hV hu K2 gS q8 hg2 xL zB hit
     gi_wp2_with fail
     gi_region_with fail
     all_goals
      by_cases GN:(ph,a,b)∈cS qre
      ·have hc1:(1:Int)<(c:Int)+1:=by
        have:=(aA HI).2.2.2.2.2.2.2.2.2.2.2.2.2.2.2.2.2.2.2.2 GN
        omega
       gi_wp2_with fail
       go_roundw
       case rel=>
        obtain ⟨nZ,uH,j6,hap,vQ,sP,qZ,lV,oC,uD,hg,hp,hV,hu,K2,gS,q8,hg2,xL,zB⟩:=aA HI
        obtain ⟨hM,dU,dG,hB,pK,LB,hT,K3,hW,hJs,pC,fZ,hY,h0⟩:=aA HE
        exact ⟨k+1,by simp,VIn.old nZ uH j6 hap vQ sP qZ lV hlt hp q8 GN ((aU wr (some W.heap.size)).trans hg2) (hJs qre wr w2 nZ.j (Fz.of_grown ((aU wr (some W.heap.size)).trans hg2) (fun k e=>by cases e;exact ⟨Nat.le_refl _,fun h=>by have:=(K3 _ _ h).1;have:=hW.size;omega⟩))).1 (fun k hk=>by
         intro e
         subst e
         rcases hk with ⟨hk,_⟩ | hk | hk | hk
         ·omega
         ·have:=aD pK;have:=hW.size;omega
         ·have:=aD LB;have:=hW.size;omega
         ·have:=hT.lt;have:=hW.size;omega)⟩
       case measure=>
        obtain ⟨nZ,uH,j6,hap,vQ,sP,qZ,lV,oC,uD,hg,hp,hV,hu,K2,gS,q8,hg2,xL,zB⟩:=aA HI
        rw [if_pos GN] at q8
        rw [q8.count,oC]
        simp [wT,Lib.intOf]
        omega
      ·obtain ⟨nZ,uH,j6,hap,vQ,sP,qZ,lV,oC,uD,hg,hp,hV,hu,K2,gS,q8,hg2,xL,zB⟩:=aA HI
       obtain ⟨hM,dU,dG,hB,pK,LB,hT,K3,hW,hJs,pC,fZ,hY,h0⟩:=aA HE
       have hc0:c=0:=by
        have:¬ 1<=c:=fun h=>GN (zB.1 h)
        omega
       subst hc0
       rw [if_neg GN] at q8
       have hgr:=(aU wr (some W.heap.size)).trans hg2
       have hz2:Fz W.heap.size fp wr w2:=Fz.of_grown hgr (fun k e=>by cases e;exact ⟨Nat.le_refl _,fun h=>by have:=(K3 _ _ h).1;have:=hW.size;omega⟩)
       have fR:=hJs qre wr w2 nZ.j hz2
       have XF:∀ k,(k=sb\/k=Bs\/k=1)->k<W.heap.size:=fun k hk=>by
        rcases hk with hk | hk | hk
        ·have:=aD pK;have:=hW.size;omega
        ·have:=aD LB;have:=hW.size;omega
        ·have:=hT.lt;have:=hW.size;omega
       have iH:=VS.count (nZ.ve) nZ.tm uH j6 hap hV q8 hgr (fun k hk e=>by
        rcases hk with ⟨hk,_⟩ | hk
        ·omega
        ·have:=XF k hk;omega)
       have hpl:(cS qre).length<=100000000:=by
        have h2:F.length*F.length<=4000*4000:=Nat.mul_le_mul hS hS
        omega
       obtain ⟨fn,tmps,assign,body,hy,j7⟩:=hY qre (g,(ph,a,b)) w2 fR.1 ⟨_,u,iH.vr,by omega⟩
       dsimp only [aD2] at hy
       have HS:=aB (And.intro iH (And.intro j7 (And.intro fR XF)))
       have h10:¬ ((1:Int)<((0:Nat):Int)+1):=by simp
       clear nZ uH j6 hap vQ sP qZ lV oC uD hg hp hV hu K2 gS q8 hg2 xL zB hM dU dG hB pK LB hT K3 hW hJs pC fZ hY h0 hgr hz2 fR XF iH j7
       gi_wp2_with fail
       refine ⟨cF,?_⟩
       refine (aA HS).2.1.mono ?_
       rintro e W3 (⟨rfl,hJ3,hk3⟩ | ⟨rfl,hx3⟩)
       ·obtain ⟨nZ,uH,j6,hap,vQ,sP,qZ,lV,oC,uD,hg,hp,hV,hu,K2,gS,q8,hg2,xL,zB⟩:=aA HI
        obtain ⟨hM,dU,dG,hB,pK,LB,hT,K3,hW,hJs,pC,fZ,hY,h0⟩:=aA HE
        obtain ⟨iH,_,fR,XF⟩:=aA HS
        have fX:=iH.round hk3 (fun k hf=>by have:=(K3 _ _ hf).1;have:=hW.size;omega) (fun k hf hz=>by
         have h1:=K3 _ _ hf
         rcases hz with ⟨hz1,hz2⟩ | hz | hz | hz
         ·rcases h1.2.1 with h | h
          ·omega
          ·exact hz2 h
         ·exact h1.2.2.1 hz
         ·exact h1.2.2.2.1 hz
         ·exact h1.2.2.2.2.2 hz)
        obtain ⟨fr3,c3,hb3⟩:=fX.vr.blk
        have HF:=aB (YW hM dG fX.ve.bel fX.ve.sbk hb3 K2.2.1 K2.2.2 fX.lv.own (by omega) (fun k hk=>Nat.le_trans hN (fX.lv.far k hk)))
        have x3:W3.cell? ⟨Bs,0,none⟩=some (.pointer (some ⟨sb,0,none⟩)):=by rw [aC fX.ve.bxs 0];rfl
        have H3:=aB (And.intro fX (And.intro hJ3 hk3))
        clear nZ uH j6 hap vQ sP qZ lV oC uD hg hp hV hu K2 gS q8 hg2 xL zB hM dU dG hB pK LB hT K3 hW hJs pC fZ hY h0 fR XF iH fX hJ3 hk3 hb3
        gi_wp2_with fail
        refine ⟨trivial,cF,(callsIn_wide.2 (aA HF)).mono ?_⟩
        rintro e W4 ⟨tv4,ns4,rfl,hG4⟩
        obtain ⟨nZ,uH,j6,hap,vQ,sP,qZ,lV,oC,uD,hg,hp,hV,hu,K2,gS,q8,hg2,xL,zB⟩:=aA HI
        obtain ⟨hM,dU,dG,hB,pK,LB,hT,K3,hW,hJs,pC,fZ,hY,h0⟩:=aA HE
        obtain ⟨fX,hJ3,hk3⟩:=aA H3
        have mD:=fX.free hN (aA HS).2.2.2 hu dU aCO K2 hG4
        obtain ⟨fr4,c5,hb4⟩:=mD.vr.blk
        have hhl:hs.length<=1000000000000:=by
         have h1:=sP.bd
         have h2:F.length*F.length<=4000*4000:=Nat.mul_le_mul hS hS
         unfold TOT at h1
         omega
        have HT:=aB (MQ hM mD.ve.bel mD.ve.sbk hb4 mD.ve.tab K2.2.1 K2.2.2 mD.nx.own (by omega))
        have x4:W4.cell? ⟨Bs,0,none⟩=some (.pointer (some ⟨sb,0,none⟩)):=by rw [aC mD.ve.bxs 0];rfl
        obtain ⟨a4,p4,rfl⟩:=aG hG4.own
        have H4:=aB (And.intro mD hG4)
        clear nZ uH j6 hap vQ sP qZ lV oC uD hg hp hV hu K2 gS q8 hg2 xL zB hM dU dG hB pK LB hT K3 hW hJs pC fZ hY h0 fX hJ3 hk3 mD hG4 hb4 HF x3
        gi_wp2_with fail
        refine ⟨trivial,cF,(callsIn_wide.2 (aA HT)).mono ?_⟩
        rintro e W5 ⟨tv5,ns5,c6,rfl,hG5,hcc⟩
        obtain ⟨a5,p5,rfl⟩:=aG hG5.own
        have H5:=aB (And.intro hG5 hcc)
        clear hG5 hcc HT x4
        have HL:=aB (And.intro (show gs.length+ns4.length=(gs++ns4).length by simp) (show hs.length+ns5.length=(hs++ns5).length by simp))
        gi_wp2_with fail
        go_roundw
        case rel=>
         rw [(aA HL).1,(aA HL).2]
         obtain ⟨nZ,uH,j6,hap,vQ,sP,qZ,lV,oC,uD,hg,hp,hV,hu,K2,gS,q8,hg2,xL,zB⟩:=aA HI
         obtain ⟨hM,dU,dG,hB,pK,LB,hT,K3,hW,hJs,pC,fZ,hY,h0⟩:=aA HE
         obtain ⟨fX,hJ3,hk3⟩:=aA H3
         obtain ⟨mD,hG4⟩:=aA H4
         obtain ⟨hG5,hcc⟩:=aA H5
         have UH:=mD.tog hN (aA HS).2.2.2 (by omega) dU K2 hG5 hcc
         have hfz:∀ {A A':World} {tv:Value} (_:∀ k,tv.ownBlock=some k->W.heap.size<=k) (_:Kp (fun k=>tv.ownBlock≠some k) A A'),Fz W.heap.size fp A A':=fun hf hk=>⟨hk.os,hk.tape,hk.output,hk.size,fun k hl hz=>hk.block k hl (fun e=>by
          have h1:=hf k e
          rcases hz with hz | hz
          ·omega
          ·have:=(K3 _ _ hz).1;have:=hW.size;omega)⟩
         have hJ4:=(hJs _ _ _ hJ3 (hfz fX.lv.far hG4.kp)).1
         have hJ5:=(hJs _ _ _ hJ4 (hfz mD.nx.far hG5.kp)).1
         exact ⟨k+1,by simp,UH.done hJ5 nZ.nd nZ.rg GN K2 dG vQ sP uH.len j6.len qZ hlt hp⟩
        case measure=>
         obtain ⟨nZ,uH,j6,hap,vQ,sP,qZ,lV,oC,uD,hg,hp,hV,hu,K2,gS,q8,hg2,xL,zB⟩:=aA HI
         obtain ⟨mD,hG4⟩:=aA H4
         obtain ⟨hG5,hcc⟩:=aA H5
         have UH:=mD.tog hN (aA HS).2.2.2 (by omega) (aA HE).2.1 K2 hG5 hcc
         have h1:=R7 (gate:=gate) (beh:=beh) (aA HE).2.2.1 (ph,a,b)
         have h2:=hG4.vis.1
         have h3:(cS qre++[(ph,a,b)]).length<=4*(F.length*F.length):=tN (List.nodup_append.2 ⟨nZ.nd,by simp,fun x hx y hy e=>GN (by rw [List.mem_singleton] at hy;rw [← hy,← e];exact hx)⟩) (fun q hq=>by
          rcases List.mem_append.1 hq with hq | hq
          ·exact nZ.rg q hq
          ·rw [List.mem_singleton] at hq;subst hq;exact K2)
         rw [UH.tm.count,oC]
         simp [wT,Lib.intOf] at h3 ⊢
         omega
       ·gi_wp2
        refine bodyPost_ret (results_none rfl _ _ _) rfl ?_
        exact ⟨⟨_,rfl⟩,.inr ⟨_,trivial,hx3⟩⟩
    ·have L7:k=gs.length:=by omega
     subst L7
     have HI:=aB (And.intro nZ (And.intro j6 (And.intro vQ (And.intro sP (And.intro qZ (And.intro lV (And.intro oC uD)))))))
     have hVl:=aB uH.len
     clear nZ uH j6 hap vQ sP qZ lV oC uD
     gi_wp2_with fail
     go_roundw
     case rel=>
      obtain ⟨nZ,j6,vQ,sP,qZ,lV,oC,uD⟩:=aA HI
      rw [List.drop_of_length_le (by rw [← aA hVl];exact Nat.le_refl _)] at vQ
      exact ⟨qre,it,D,hs,qrs,nZ,j6,vQ.turn,⟨Nat.zero_le _,sP.pl,by have:=sP.bd;omega⟩⟩
     case measure=>
      obtain ⟨nZ,j6,vQ,sP,qZ,lV,oC,uD⟩:=aA HI
      obtain ⟨hc0,hp0,hs0⟩:=aA Hcnt
      rw [oC,hc0,if_neg hs0]
      have e1:wT (Value.slice an hs.length cn)=hs.length:=rfl
      split
      ·omega
      ·have:=lV (fun e=>by subst e;simp at e1;contradiction)
       omega
end Go.Proofs.YtlljggefbngkeaaGreatDoor
