import Derived.Test.YtlljggefbngkeaaGreatDoorU33
import Derived.Test.YtlljggefbngkeaaGreatDoorU23
import Derived.Deep.RegionHeld3
import Derived.Test.YtlljggefbngkeaaGreatDoorU20
import Derived.Deep.AppendLies
import Derived.BigQuiet
set_option maxRecDepth 100000
set_option maxHeartbeats 6400000
namespace Go.Proofs.YtlljggefbngkeaaGreatDoor
open Go.RowKit Go.Shelf Go.Maps
attribute [local go_sem] Oper.semAt_some
def WB (W:World) (F:List cA) (gate beh:Nat) (s0:P3) (en:Nat) (e:Ending) (w':World):Prop:=
 ∃ (u:List UInt8) (f:Bool),e = .returned (.tuple #[.string (aE u),.bool f])/\(f=true->Way F gate beh s0 u (3,en,en)/\u.length<=100000000)/\(f=false->u=[]/\∀ u',¬ Way F gate beh s0 u' (3,en,en))/\W.grownBy w' none
def ShI (W:World) (en:Nat) (pre:List (Nat×P3)) (A:World):Prop:=(∀ x,x∈pre->x.2≠(3,en,en))/\A.heap[W.heap.size+1]? = some (.cells #[.string ⟨#[]⟩] 9 (0,0))/\A.heap[W.heap.size+2]? = some (.cells #[.bool false] 4 (0,0))/\A.heap[W.heap.size+3]? = some (.cells #[.int .i64 3,.int .i64 (en:Int),.int .i64 (en:Int)] 211 (0,0))/\W.grownBy A none
def ShX (W:World) (F:List cA) (gate beh:Nat) (s0:P3) (en:Nat) (_:List (Nat×P3)) (A:World):Prop:=∃ u,(Way F gate beh s0 u (3,en,en)/\u.length<=100000000)/\A.heap[W.heap.size+1]? = some (.cells #[.string (aE u)] 9 (0,0))/\A.heap[W.heap.size+2]? = some (.cells #[.bool true] 4 (0,0))/\W.grownBy A none
def aHR (W:World) (_:World) (k:Nat):Prop:=k=W.heap.size+1\/k=W.heap.size+2
theorem aBT (W:World) (o1 o2 o3 o4 o5 o6:Obj):∃ w6,((((((W.alloc o1).alloc o2).alloc o3).alloc o4).alloc o5).alloc o6).drew=w6/\w6.heap.size=W.heap.size+6/\w6.heap[W.heap.size+1]? = some o2/\w6.heap[W.heap.size+2]? = some o3/\w6.heap[W.heap.size+3]? = some o4/\w6.heap[W.heap.size+4]? = some o5/\w6.heap[W.heap.size+5]? = some o6/\W.grownBy w6 none:=by
 obtain ⟨w4,h4,s4,a4,b4,c4,d4,g4⟩:=oQ W o1 o2 o3 o4
 obtain ⟨w6,h6,s6,a6,b6,g6⟩:=t8 w4 o5 o6
 refine ⟨w6.drew,by rw [h4,h6],?_,?_,?_,?_,?_,?_,(g4.trans g6).trans (aU _ _)⟩
 ·show w6.heap.size=_
  omega
 ·show w6.heap[W.heap.size+1]? = _
  exact (g6.block _ (by omega) (by simp)).trans b4
 ·show w6.heap[W.heap.size+2]? = _
  exact (g6.block _ (by omega) (by simp)).trans c4
 ·show w6.heap[W.heap.size+3]? = _
  exact (g6.block _ (by omega) (by simp)).trans d4
 ·show w6.heap[W.heap.size+4]? = _
  rw [← s4]
  exact a6
 ·show w6.heap[W.heap.size+5]? = _
  rw [show W.heap.size+5=w4.heap.size+1 by omega]
  exact b6
theorem DO {W A A':World} {N:Nat} {fp:World->Nat->Prop} (h:W.grownBy A none) (hN:W.heap.size<=N) (hz:Fz N fp A A'):W.grownBy A' none:=
 ⟨hz.os.trans h.os,hz.tape.trans h.tape,hz.output.trans h.output,Nat.le_trans h.size hz.size,fun k hk hn=>(hz.block k (Nat.lt_of_lt_of_le hk h.size) (.inl (by omega))).trans (h.block k hk hn)⟩
theorem O3 {wm W:World} {Br mb sb gate beh:Nat} {F:List cA} {st en:Nat} {s0:P3} (hM:MH wm (fun k=>k=Br) mb F st en) (dU:Cl F F.length) (dG:∀ x,bZ F x<=1000) (hS:F.length<=4000) (aCO:beh<F.length) (hr0:k9 F.length s0) (hB:Kp (fun k=>k≠Br) wm W)
  (pK:W.heap[sb]? = some (uO mb gate beh)) (hT:nU W):
  Calls Tryz.prog 157 #[.pointer (some ⟨sb,0,none⟩),nC s0] W fun e w'=>WB W F gate beh s0 en e w':=by
 obtain ⟨ao,cp,m0,m2,_⟩:=hM.row hB
 have s0c:W.cell? ⟨sb,0,none⟩=some (.pointer (some ⟨mb,0,none⟩)):=by rw [aC pK 0];rfl
 unfold nC
 refine (callsIn_wide (n:=3)).1 ?_
 refine callsIn_of_wp_marks Tryz.func157 rfl trivial ?_ rfl
 simp only [Tryz.ntmps157,List.size_toArray,List.length_cons,List.length_nil,Nat.reduceAdd,Nat.reduceSub,Array.replicate_succ,Array.replicate_zero,List.push_toArray,List.append_toArray,List.nil_append,List.cons_append]
 have fU:=aD pK
 have hml:mb<W.heap.size:=by have:=hM.lt;have:=hB.size;omega
 have c3:∀ o1 o2 o3,(((W.alloc o1).alloc o2).alloc o3).cell? ⟨sb,0,none⟩=some (.pointer (some ⟨mb,0,none⟩)):=fun o1 o2 o3=>by rw [World.cell?_alloc_past _ _ _ (by simp;omega),World.cell?_alloc_past _ _ _ (by simp;omega),World.cell?_alloc_past _ _ _ fU];exact s0c
 have d3:∀ o1 o2 o3,(((W.alloc o1).alloc o2).alloc o3).cell? ⟨mb,2,none⟩=some (.int .i64 (en:Int)):=fun o1 o2 o3=>by rw [World.cell?_alloc_past _ _ _ (by simp;omega),World.cell?_alloc_past _ _ _ (by simp;omega),World.cell?_alloc_past _ _ _ hml];exact m2
 have c4:∀ o1 o2 o3 o4,((((W.alloc o1).alloc o2).alloc o3).alloc o4).cell? ⟨sb,0,none⟩=some (.pointer (some ⟨mb,0,none⟩)):=fun o1 o2 o3 o4=>by rw [World.cell?_alloc_past _ _ _ (by simp;omega)];exact c3 _ _ _
 have d4:∀ o1 o2 o3 o4,((((W.alloc o1).alloc o2).alloc o3).alloc o4).cell? ⟨mb,2,none⟩=some (.int .i64 (en:Int)):=fun o1 o2 o3 o4=>by rw [World.cell?_alloc_past _ _ _ (by simp;omega)];exact d3 _ _ _
 gi_wp2_with fail
 refine wpIn_mono (Q:=NoPanic (fun e a' w'=>e = .normal/\a'=⟨#[Value.pointer (some {block:=sb,off:=0}),Value.agg #[Value.int IntKind.i64 ↑s0.fst,Value.int IntKind.i64 ↑s0.snd.fst,Value.int IntKind.i64 ↑s0.snd.snd],undef,Value.pointer (some {block:=W.heap.size,off:=0}),Value.pointer (some {block:=W.heap.size+1,off:=0}),Value.pointer (some {block:=W.heap.size+1+1,off:=0}),Value.pointer (some {block:=W.heap.size+1+1+1,off:=0}),undef,Value.pointer (some {block:=sb,off:=0}),Value.pointer (some {block:=sb,off:=0}),Value.pointer (some {block:=sb,off:=0}),Value.pointer (some {block:=mb,off:=0}),Value.pointer (some {block:=mb,off:=0}),Value.pointer (some {block:=mb,off:=2}),Value.int IntKind.i64 ↑en,Value.pointer (some {block:=sb,off:=0}),Value.pointer (some {block:=sb,off:=0}),Value.pointer (some {block:=sb,off:=0}),Value.pointer (some {block:=mb,off:=0}),Value.pointer (some {block:=mb,off:=0}),Value.pointer (some {block:=mb,off:=2}),Value.int IntKind.i64 ↑en,Value.agg #[Value.int IntKind.i64 3,Value.int IntKind.i64 ↑en,Value.int IntKind.i64 ↑en],undef,undef,undef,undef,undef,undef,undef,undef,undef,undef,undef,undef],[]⟩/\w'=((((W.alloc (.cells #[.int .i64 (s0.1:Int),.int .i64 (s0.2.1:Int),.int .i64 (s0.2.2:Int)] 211)).alloc (.cells #[.string ⟨#[]⟩] 9)).alloc (.cells #[.bool false] 4)).alloc (.cells #[.int .i64 3,.int .i64 (en:Int),.int .i64 (en:Int)] 211)).drew)) ?_ ?_
 ·gi_region_with fail
  all_goals exact ⟨rfl,rfl,rfl⟩
 rintro e a' w' hq
 cases e with
 | normal=>
  obtain ⟨_,rfl,rfl⟩:=hq
  clear c3 d3 c4 d4 s0c m0 m2
  gi_wp2_with fail
  refine ⟨trivial,(YM 2 sb s0 _).mono ?_⟩
  rintro e w' ⟨rfl,rfl⟩
  gi_wp2_with fail
  obtain ⟨w6,hw6,hs6,r1,r2,r3,r4,r5,d8⟩:=aBT W (.cells #[.int .i64 (s0.1:Int),.int .i64 (s0.2.1:Int),.int .i64 (s0.2.2:Int)] 211) (.cells #[.string ⟨#[]⟩] 9) (.cells #[.bool false] 4) (.cells #[.int .i64 3,.int .i64 (en:Int),.int .i64 (en:Int)] 211) (.cells #[.pointer (some ⟨sb,0,none⟩)] 204) (.cells (U7 s0) 211)
  rw [hw6]
  simp only [Nat.add_assoc,Nat.reduceAdd]
  have hB6:Kp (fun k=>k≠Br) wm w6:=hB.trans (Kp.of_grown d8 (fun _ e=>by cases e))
  have aGV:=(d8.block sb fU (by simp)).trans pK
  have hT6:nU w6:=fun j hj=>by rw [World.cell?_of_block (a:=⟨1,j,none⟩) (d8.block _ hT.lt (by simp))];exact hT j hj
  have GL:=hT.lt
  have hsz:=hB.size
  clear hw6
  refine AP (α:=Nat×P3) rfl (by decide) (gf:=183) (lb := #[.pointer (some ⟨W.heap.size+5,0,none⟩),.pointer (some ⟨W.heap.size+4,0,none⟩)]) rfl trivial (enters_of Tryz.func183 (by kernel_rfl) rfl)
   (EP (fp:=aHR W) (s0:=s0) hM dU dG hS aCO hr0 hB6 aGV r4 r5 hT6 (fun A k h=>by rcases h with h | h <;> (subst h;exact ⟨by omega,.inl (by omega),by omega,by omega,by omega,by omega⟩))) (fun _=>rfl)
   (fun pre x A A' ⟨N,u,hv,hl⟩ hk=>⟨N,u,hv.kv (fun k pr fr c _ h=>hk k _ _ _ h),hl⟩)
   (ShI W en) (ShX W F gate beh s0 en)
   (fun pre A A' h hz=>⟨⟨h.1,(hz.block _ (aD h.2.1) (.inr (.inl rfl))).trans h.2.1,(hz.block _ (aD h.2.2.1) (.inr (.inr rfl))).trans h.2.2.1,(hz.block _ (aD h.2.2.2.1) (.inl (by omega))).trans h.2.2.2.1,DO h.2.2.2.2 (by omega) hz⟩,fun _=>Iff.rfl⟩)
   (fun pre A A' h hb hs ho ht hu=>?sx)
   (fun pre A A' h hz=>?sy)
   (fun pre A k h hk => .inl (by rcases hk with hk | hk <;> omega)) (fun _ pre A h k hk=>by rcases hk with hk | hk <;> subst hk <;> first | exact aD h.2.1 | exact aD h.2.2.1)
   ⟨fun x hx=>(by cases hx),r1,r2,r3,d8⟩
   ?a1 ?assign ?body ?done ?stop
  case sx=>
   obtain ⟨u,h1,h2,h3,h4⟩:=h
   exact ⟨u,h1,(hb _ (aD h2) (.inl (by omega))).trans h2,(hb _ (aD h3) (.inl (by omega))).trans h3,⟨ho.trans h4.os,ht.trans h4.tape,hu.trans h4.output,by have:=h4.size;omega,fun k hk hn=>(hb k (Nat.lt_of_lt_of_le hk h4.size) (.inl (by omega))).trans (h4.block k hk hn)⟩⟩
  case sy=>
   obtain ⟨u,h1,h2,h3,h4⟩:=h
   exact ⟨u,h1,(hz.block _ (aD h2) (.inr (.inl rfl))).trans h2,(hz.block _ (aD h3) (.inr (.inr rfl))).trans h3,DO h4 (by omega) hz⟩
  case assign=>
   intro l' x W K hK
   simp only [aD2]
   gi_wp2
   exact hK
  case body=>
   rintro l' pre ⟨g,ph,a,b⟩ Wr ⟨eI,eG,oT,D0,jH⟩ ⟨N,u,hv,hu⟩ OD
   obtain ⟨fr,c,gS⟩:=hv.blk
   have e0:Wr.cell? ⟨g,0,none⟩=some (.int .i64 (ph:Int)):=by rw [aC gS 0];rfl
   have e1:Wr.cell? ⟨g,1,none⟩=some (.int .i64 (a:Int)):=by rw [aC gS 1];rfl
   have e2:Wr.cell? ⟨g,2,none⟩=some (.int .i64 (b:Int)):=by rw [aC gS 2];rfl
   have g0:Wr.cell? ⟨W.heap.size+3,0,none⟩=some (.int .i64 3):=by rw [aC D0 0];rfl
   have g1:Wr.cell? ⟨W.heap.size+3,1,none⟩=some (.int .i64 (en:Int)):=by rw [aC D0 1];rfl
   have g2:Wr.cell? ⟨W.heap.size+3,2,none⟩=some (.int .i64 (en:Int)):=by rw [aC D0 2];rfl
   have HP:=aB (And.intro eI (And.intro eG (And.intro oT (And.intro D0 (And.intro jH (And.intro hv hu))))))
   clear eI eG oT D0 jH hv hu gS
   have hq0:∀ w',Wr.grownBy w' none->w'.cell? ⟨g,0,none⟩=some (.int .i64 (ph:Int)):=fun w' hg=>hg.cell e0 (by simp)
   have mB:∀ w',Wr.grownBy w' none->w'.cell? ⟨g,1,none⟩=some (.int .i64 (a:Int)):=fun w' hg=>hg.cell e1 (by simp)
   have cH:∀ w',Wr.grownBy w' none->w'.cell? ⟨g,2,none⟩=some (.int .i64 (b:Int)):=fun w' hg=>hg.cell e2 (by simp)
   have hg0:∀ w',Wr.grownBy w' none->w'.cell? ⟨W.heap.size+3,0,none⟩=some (.int .i64 3):=fun w' hg=>hg.cell g0 (by simp)
   have hg1:∀ w',Wr.grownBy w' none->w'.cell? ⟨W.heap.size+3,1,none⟩=some (.int .i64 (en:Int)):=fun w' hg=>hg.cell g1 (by simp)
   have hg2:∀ w',Wr.grownBy w' none->w'.cell? ⟨W.heap.size+3,2,none⟩=some (.int .i64 (en:Int)):=fun w' hg=>hg.cell g2 (by simp)
   clear e0 e1 e2 g0 g1 g2
   gi_wp2_with fail
   refine eJ (F:=Fence.wide) (C:=fun w'=>Wr.grownBy w' none) rfl (by kernel_rfl) (by kernel_rfl) (by kernel_rfl) (aU Wr none) ?_
   repeat (refine wpQuietIn_step (fun _ _ _ _=>trivial) (fun K hK=>?_);go_simp;first | (refine hK _ ?_;clear hK K) | (refine ⟨_,fun _ _=>rfl,hK _ ?_⟩;clear hK K))
   refine wpQuietIn_step (fun _ _ _ _=>trivial) (fun K hK=>?_)
   go_simp
   refine ⟨.agg #[.int .i64 (ph:Int),.int .i64 (a:Int),.int .i64 (b:Int)],fun w' hw'=>(by simp [hq0 w' hw',mB w' hw',cH w' hw',Result.andThen]),hK _ ?_⟩
   clear hK K
   refine wpQuietIn_step (fun _ _ _ _=>trivial) (fun K hK=>?_)
   go_simp
   refine ⟨.agg #[.int .i64 3,.int .i64 (en:Int),.int .i64 (en:Int)],fun w' hw'=>(by simp [hg0 w' hw',hg1 w' hw',hg2 w' hw',Result.andThen]),hK _ ?_⟩
   clear hK K
   refine wpQuietIn_step (fun _ _ _ _=>trivial) (fun K hK=>?_)
   go_simp
   have i1:((ph:Int)=3)↔ph=3:=by omega
   have i2:((a:Int)=(en:Int))↔a=en:=by omega
   have i3:((b:Int)=(en:Int))↔b=en:=by omega
   refine ⟨.bool (decide (ph=3/\a=en/\b=en)),fun w' hw'=>?_,hK _ ?_⟩
   ·simp only [i1,i2,i3]
    by_cases h1:ph=3 <;> by_cases h2:a=en <;> by_cases h3:b=en <;> simp [h1,h2,h3]
   clear hK K i1 i2 i3
   have Hdec:Hid (decide (ph=3/\a=en/\b=en)=true↔(ph,a,b)=(3,en,en)):=aB (by simp)
   generalize decide (ph=3/\a=en/\b=en)=y at *
   refine wpQuietIn_nil ?_
   intro w1 dC
   cases y with
   | false=>
    have Hw1:=aB dC
    clear dC
    gi_wp2_with fail
    obtain ⟨eI,eG,oT,D0,jH,hv,hu⟩:=aA HP
    have dC:=aA Hw1
    refine ⟨⟨dC.os,dC.tape,dC.output,dC.size,fun k hk _=>dC.block k hk (by simp),fun k hk => .inl hk⟩,fun x hx=>?_,(dC.block _ (aD eG) (by simp)).trans eG,(dC.block _ (aD oT) (by simp)).trans oT,(dC.block _ (aD D0) (by simp)).trans D0,jH.trans dC⟩
    rcases List.mem_append.1 hx with hx | hx
    ·exact eI x hx
    ·rw [List.mem_singleton] at hx
     subst hx
     exact fun e=>absurd ((aA Hdec).2 e) (by simp)
   | true=>
    have HTx:=aB (aDY (F:=F) (gate:=gate) (beh:=beh) (s0:=s0) (N:=N) (w:=w1) ((aA HP).2.2.2.2.2.1.kv (Kv.of_grown dC)) (by have:=(aA HP).2.2.2.2.2.2;omega))
    have Hw1:=aB dC
    clear dC
    gi_wp2_with fail
    refine ⟨trivial,(CallsIn.inRound l' (callsIn_wide.2 (aA HTx))).mono ?_⟩
    rintro e w2 ⟨rfl,hw2⟩
    obtain ⟨eI,eG,oT,D0,jH,hv,hu⟩:=aA HP
    have C4:=(aA Hw1).trans hw2
    have q2:=(C4.block _ (aD eG) (by simp)).trans eG
    have q3:=(C4.block _ (aD oT) (by simp)).trans oT
    have x2:=aC q2 0
    have x3:=aC q3 0
    have y2:=aM q2 0
    have y3:=aM q3 0
    simp at x2 x3
    have H2:=aB (And.intro C4 (And.intro q2 q3))
    clear eI eG oT D0 jH hv hu C4 hw2 q2 q3
    gi_wp2_with fail
    obtain ⟨eI,eG,oT,D0,jH,hv,hu⟩:=aA HP
    obtain ⟨C4,q2,q3⟩:=aA H2
    have far:∀ k,k≠W.heap.size+1->k≠W.heap.size+2->((w2.setCell ⟨W.heap.size+1,0,none⟩ (.string (aE u))).setCell ⟨W.heap.size+2,0,none⟩ (.bool true)).heap[k]? = w2.heap[k]? := fun k h1 h2=>(Below.heap_setCell _ _ _ _ h2).trans (Below.heap_setCell _ _ _ _ h1)
    have qH:((w2.setCell ⟨W.heap.size+1,0,none⟩ (.string (aE u))).setCell ⟨W.heap.size+2,0,none⟩ (.bool true)).heap.size=w2.heap.size:=by simp [World.setCell]
    have z1:((w2.setCell ⟨W.heap.size+1,0,none⟩ (.string (aE u))).setCell ⟨W.heap.size+2,0,none⟩ (.bool true)).heap[W.heap.size+1]? = some (.cells #[.string (aE u)] 9 (0,0)):=(Below.heap_setCell _ _ _ _ (show W.heap.size+1≠W.heap.size+2 by omega)).trans (by simpa using aK q2 0 (.string (aE u)))
    have z2:((w2.setCell ⟨W.heap.size+1,0,none⟩ (.string (aE u))).setCell ⟨W.heap.size+2,0,none⟩ (.bool true)).heap[W.heap.size+2]? = some (.cells #[.bool true] 4 (0,0)):=by
     have q3':(w2.setCell ⟨W.heap.size+1,0,none⟩ (.string (aE u))).heap[W.heap.size+2]? = some (.cells #[.bool false] 4 (0,0)):=(Below.heap_setCell _ _ _ _ (show W.heap.size+2≠W.heap.size+1 by omega)).trans q3
     simpa using aK q3' 0 (.bool true)
    have hwy:=hv.way
    rw [(aA Hdec).1 (by first | rfl | trivial)] at hwy
    refine ⟨⟨C4.os,C4.tape,C4.output,by rw [qH];exact C4.size,fun k hk hn=>(far k (fun e=>hn (.inl e)) (fun e=>hn (.inr e))).trans (C4.block k hk (by simp)),fun k hk => .inl hk⟩,u,⟨hwy,hu⟩,z1,z2,?_⟩
    have hpw:=jH.trans C4
    exact ⟨hpw.os,hpw.tape,hpw.output,by rw [qH];exact hpw.size,fun k hk hn=>(far k (by omega) (by omega)).trans (hpw.block k hk hn)⟩
  case done=>
   rintro D xs W9 hD tQ ⟨eI,eG,oT,D0,jH⟩ hK
   have x2:=aC eG 0
   have x3:=aC oT 0
   have y2:=aM eG 0
   have y3:=aM oT 0
   simp at x2 x3
   have HP:=aB (And.intro eI (And.intro eG (And.intro oT (And.intro jH (And.intro tQ hK)))))
   clear eI eG oT D0 jH tQ
   gi_wp2_with fail
   obtain ⟨eI,eG,oT,jH,tQ,hK⟩:=aA HP
   have hD1:D≠W.heap.size+1:=by omega
   have hD2:D≠W.heap.size+2:=by omega
   refine ⟨by simp,.inl ⟨_,_,rfl,run_takeDeferred ((Below.heap_setCell _ _ _ _ hD2).trans ((Below.heap_setCell _ _ _ _ hD1).trans hK)),?_⟩⟩
   have z1:((W9.setCell ⟨W.heap.size+1,0,none⟩ (.string ⟨#[]⟩)).setCell ⟨W.heap.size+2,0,none⟩ (.bool false)).heap[W.heap.size+1]? = some (.cells #[.string ⟨#[]⟩] 9 (0,0)):=(Below.heap_setCell _ _ _ _ (show W.heap.size+1≠W.heap.size+2 by omega)).trans (by simpa using aK eG 0 (.string ⟨#[]⟩))
   have z2:((W9.setCell ⟨W.heap.size+1,0,none⟩ (.string ⟨#[]⟩)).setCell ⟨W.heap.size+2,0,none⟩ (.bool false)).heap[W.heap.size+2]? = some (.cells #[.bool false] 4 (0,0)):=by
    have q3':(W9.setCell ⟨W.heap.size+1,0,none⟩ (.string ⟨#[]⟩)).heap[W.heap.size+2]? = some (.cells #[.bool false] 4 (0,0)):=(Below.heap_setCell _ _ _ _ (show W.heap.size+2≠W.heap.size+1 by omega)).trans oT
    simpa using aK q3' 0 (.bool false)
   have far:∀ k,k≠W.heap.size+1->k≠W.heap.size+2->((W9.setCell ⟨W.heap.size+1,0,none⟩ (.string ⟨#[]⟩)).setCell ⟨W.heap.size+2,0,none⟩ (.bool false)).heap[k]? = W9.heap[k]? := fun k h1 h2=>(Below.heap_setCell _ _ _ _ h2).trans (Below.heap_setCell _ _ _ _ h1)
   have qH:((W9.setCell ⟨W.heap.size+1,0,none⟩ (.string ⟨#[]⟩)).setCell ⟨W.heap.size+2,0,none⟩ (.bool false)).heap.size=W9.heap.size:=by simp [World.setCell]
   have ho:((W9.setCell ⟨W.heap.size+1,0,none⟩ (.string ⟨#[]⟩)).setCell ⟨W.heap.size+2,0,none⟩ (.bool false)).os=W9.os:=rfl
   have ht:((W9.setCell ⟨W.heap.size+1,0,none⟩ (.string ⟨#[]⟩)).setCell ⟨W.heap.size+2,0,none⟩ (.bool false)).tape=W9.tape:=rfl
   have hu:((W9.setCell ⟨W.heap.size+1,0,none⟩ (.string ⟨#[]⟩)).setCell ⟨W.heap.size+2,0,none⟩ (.bool false)).output=W9.output:=rfl
   generalize ((W9.setCell ⟨W.heap.size+1,0,none⟩ (.string ⟨#[]⟩)).setCell ⟨W.heap.size+2,0,none⟩ (.bool false))=W10 at *
   have mB:=(World.putObj_heap_other (w:=W10) (r:=D) (o := .deferred none) (k:=W.heap.size+1) (by omega)).trans z1
   have cH:=(World.putObj_heap_other (w:=W10) (r:=D) (o := .deferred none) (k:=W.heap.size+2) (by omega)).trans z2
   have c1:=aC mB 0
   have c2:=aC cH 0
   simp at c1 c2
   refine ⟨.tuple #[.string ⟨#[]⟩,.bool false],?_,?_⟩
   ·simp [results,Tryz.f157,go_sem,c1,c2]
   ·refine ⟨[],false,rfl,fun h=>(by cases h),fun _=>⟨rfl,fun u' hw=>?_⟩,⟨ho.trans jH.os,ht.trans jH.tape,hu.trans jH.output,by simp [World.putObj,qH];exact jH.size,fun k hk hn=>(World.putObj_heap_other (by have:=jH.size;omega)).trans ((far k (by omega) (by omega)).trans (jH.block k hk hn))⟩⟩
    obtain ⟨x,hx,he⟩:=List.mem_map.1 (tQ u' _ hw)
    exact eI x hx he
  case stop=>
   rintro D pre W9 hD tQ ⟨u,hw,eG,oT,jH⟩ hK
   have HP:=aB (And.intro hw (And.intro eG (And.intro oT jH)))
   clear hw eG oT jH tQ
   gi_wp2_with fail
   refine ⟨by simp,.inl ⟨_,_,rfl,run_takeDeferred hK,?_⟩⟩
   obtain ⟨hw,eG,oT,jH⟩:=aA HP
   have mB:=(World.putObj_heap_other (w:=W9) (r:=D) (o := .deferred none) (k:=W.heap.size+1) (by omega)).trans eG
   have cH:=(World.putObj_heap_other (w:=W9) (r:=D) (o := .deferred none) (k:=W.heap.size+2) (by omega)).trans oT
   have c1:=aC mB 0
   have c2:=aC cH 0
   simp at c1 c2
   refine ⟨.tuple #[.string (aE u),.bool true],?_,?_⟩
   ·simp [results,Tryz.f157,go_sem,c1,c2]
   ·exact ⟨u,true,rfl,fun _=>hw,fun h=>(by cases h),⟨jH.os,jH.tape,jH.output,by simp [World.putObj];exact jH.size,fun k hk hn=>(World.putObj_heap_other (by have:=jH.size;omega)).trans (jH.block k hk hn)⟩⟩
 | panic=>exact hq.elim
 | ret=>cases hq.1
 | exit=>cases hq.1
 | goto=>cases hq.1
 | outgrown=>cases hq.1
end Go.Proofs.YtlljggefbngkeaaGreatDoor
namespace Go.Proofs.YtlljggefbngkeaaGreatDoor
open Go.RowKit
structure SE (w0 w:World) (mb sb gate beh:Nat) (S:List cA) (st en:Nat):Prop where
 m:MH w (fun k=>k<w0.heap.size\/k=sb) mb S st en
 s:w.heap[sb]? = some (uO mb gate beh)
 lo:w0.heap.size<=sb
 gr:w0.grownBy w none
def aB6 (w:World) (e:Ending) (w':World):Prop:=∃ mb sb,e = .returned (.pointer (some ⟨sb,0,none⟩))/\SE w w' mb sb 0 0 [⟨[],0,[]⟩] 0 0
theorem SE.of_kp {w0 w w':World} {mb sb gate beh:Nat} {S S':List cA} {st en st' en':Nat} (h:SE w0 w mb sb gate beh S st en) (hm:MH w' (fun k=>k<w0.heap.size\/k=sb) mb S' st' en') (hk:Kp (fun k=>k<w0.heap.size\/k=sb) w w'):SE w0 w' mb sb gate beh S' st' en' where
 m:=hm
 s:=(hk.block sb (aD h.s) (.inr rfl)).trans h.s
 lo:=h.lo
 gr:=⟨hk.os.trans h.gr.os,hk.tape.trans h.gr.tape,hk.output.trans h.gr.output,Nat.le_trans h.gr.size hk.size,fun k hl hn=>(hk.block k (Nat.lt_of_lt_of_le hl h.gr.size) (.inl hl)).trans (h.gr.block k hl hn)⟩
theorem SE.lt {w0 w:World} {mb sb gate beh:Nat} {S:List cA} {st en:Nat} (h:SE w0 w mb sb gate beh S st en):∀ k,k<w0.heap.size\/k=sb->k<w.heap.size:=fun k hk=>by
 rcases hk with hk | hk
 ·exact Nat.lt_of_lt_of_le hk h.gr.size
 ·subst hk;exact aD h.s
theorem SE.below {w0 w:World} {mb sb gate beh:Nat} {S:List cA} {st en:Nat} (h:SE w0 w mb sb gate beh S st en):Below w0.heap.size w0 w:=⟨h.gr.os,h.gr.tape,h.gr.output,h.gr.size,fun k hk=>h.gr.block k hk (by simp)⟩
theorem SE.setG {w0 w:World} {mb sb gate beh:Nat} {S:List cA} {st en:Nat} (h:SE w0 w mb sb gate beh S st en) (i x gate' beh':Nat) (hi:(i=1/\gate'=x/\beh'=beh)\/(i=2/\gate'=gate/\beh'=x)):SE w0 (w.setCell ⟨sb,i,none⟩ (.int .i64 (x:Int))) mb sb gate' beh' S st en where
 m:=h.m.grown (aT w sb i _) (fun k e=>by injection e with e;exact .inr e.symm)
 s:=by
  have:=aK h.s i (.int .i64 (x:Int))
  rcases hi with ⟨rfl,rfl,rfl⟩ | ⟨rfl,rfl,rfl⟩ <;> simpa [uO] using this
 lo:=h.lo
 gr:=by
  have hg:=aT w sb i (.int .i64 (x:Int))
  exact ⟨hg.os.trans h.gr.os,hg.tape.trans h.gr.tape,hg.output.trans h.gr.output,Nat.le_trans h.gr.size hg.size,fun k hk hn=>(hg.block k (Nat.lt_of_lt_of_le hk h.gr.size) (fun e=>by injection e with e;have:=h.lo;omega)).trans (h.gr.block k hk hn)⟩
theorem SE.cells {w0 w:World} {mb sb gate beh:Nat} {S:List cA} {st en:Nat} (h:SE w0 w mb sb gate beh S st en):w.cell? ⟨sb,0,none⟩=some (.pointer (some ⟨mb,0,none⟩))/\w.cell? ⟨sb,1,none⟩=some (.int .i64 (gate:Int))/\w.cell? ⟨sb,2,none⟩=some (.int .i64 (beh:Int))/\w.cell? ⟨mb,2,none⟩=some (.int .i64 (en:Int))/\(∀ o,w.frozen? ⟨sb,o,none⟩=false):=
 ⟨by rw [aC h.s 0];rfl,by rw [aC h.s 1];rfl,by rw [aC h.s 2];rfl,h.m.c.2.1,fun o=>aM h.s o⟩
theorem SE.setE {w0 w:World} {mb sb gate beh:Nat} {S:List cA} {st en:Nat} (h:SE w0 w mb sb gate beh S st en) (x:Nat):SE w0 (w.setCell ⟨mb,2,none⟩ (.int .i64 (x:Int))) mb sb gate beh S st x where
 m:=h.m.setSE x st x (.inr ⟨rfl,rfl,rfl⟩)
 s:=(Below.heap_setCell _ _ _ _ (fun e=>h.m.nb (.inr e.symm))).trans h.s
 lo:=h.lo
 gr:=by
  have hg:=aT w mb 2 (.int .i64 (x:Int))
  exact ⟨hg.os.trans h.gr.os,hg.tape.trans h.gr.tape,hg.output.trans h.gr.output,Nat.le_trans h.gr.size hg.size,fun k hk hn=>(hg.block k (Nat.lt_of_lt_of_le hk h.gr.size) (fun e=>by injection e with e;exact h.m.nb (.inl (by rw [← e];exact hk)))).trans (h.gr.block k hk hn)⟩
theorem aE1 (w:World):Calls Tryz.prog 156 #[] w fun e w'=>aB6 w e w':=by
 have hM0:MH ((w.alloc (yP (.slice none 0 0) 0 0)).alloc (uO w.heap.size 0 0)) (fun k=>k<w.heap.size\/k=w.heap.size+1) w.heap.size [] 0 0:=by
  refine ⟨.slice none 0 0,[],?_⟩
  exact {
   blk:=heap_alloc_old _ (heap_alloc_new w _)
   own:=World.ownsRow_nil _ _ _ _
   free:=fun j q hq=>by simp at hq
   nb:=fun h=>by rcases h with h | h <;> omega
   np:=fun k hk=>by cases hk}
 have hE0:SE w ((w.alloc (yP (.slice none 0 0) 0 0)).alloc (uO w.heap.size 0 0)) w.heap.size (w.heap.size+1) 0 0 [] 0 0:=⟨hM0,bC w _ _,by omega,(World.grownBy_alloc w _ none).trans (World.grownBy_alloc _ _ none)⟩
 have HA:=aB (JL ⟨[],0,[]⟩ 0 (.slice none 0 0) iX hM0.drew (by simp) (World.ownsRow_nil _ _ _ _) (fun k hk=>by cases hk) (fun k hk=>by simp;rcases hk with hk | hk <;> omega))
 have HE:=aB hE0
 obtain ⟨c0,_,_,c2,cf⟩:=hE0.cells
 clear hM0 hE0
 go_enter Tryz.func156,Tryz.ntmps156
 go_wp2_with fail
 have c0':((w.alloc (yP (.slice none 0 0) 0 0)).alloc (uO w.heap.size 0 0)).cell? ⟨w.heap.size+1,0,none⟩=some (.pointer (some ⟨w.heap.size,0,none⟩)):=c0
 go_region_held3 (fun w'=>w'.cell? ⟨w.heap.size+1,0,none⟩=some (.pointer (some ⟨w.heap.size,0,none⟩))) (go_keep) (first
  | (go_at_call 140;refine (aA HA).mono ?_;rintro e w1 ⟨rfl,pS,cO⟩;have E9:=SE.of_kp (aA HE) pS ((Kp.drew _ _).trans cO);have d0:=E9.cells.1;have d2:=E9.m.c.2.1;have df:=E9.m.c.2.2 2;have H1:=aB E9;clear pS cO E9))
 go_wp2
 go_ret
 exact ⟨w.heap.size,w.heap.size+1,rfl,(aA H1).setE 0⟩
theorem Fl.len {S:List cA} (h:Fl S):∀ x,bZ S x<=1000:=qN h
theorem YI {ta tb:PT} (PJ:aP ta<=1000) (pK:aP tb<=1000) {F:List cA} {gate beh start:Nat} (h:ER ta tb=(F,gate,beh,start)):Cl F F.length/\(∀ x,bZ F x<=1000)/\F.length<=4000/\beh<F.length/\start<F.length:=by
 unfold ER at h
 simp only at h
 generalize hb:bJ tb [⟨[],0,[]⟩] 0=q at h
 generalize ha:bJ ta (q.1++[⟨[],0,[]⟩]) q.1.length=r at h
 have e1:r.1=F:=congrArg (·.1) h
 have e2:q.2=beh:=congrArg (·.2.2.1) h
 have e3:r.2=start:=congrArg (·.2.2.2) h
 have l1:=fL tb [⟨[],0,[]⟩] 0
 have l2:=fL ta (q.1++[⟨[],0,[]⟩]) q.1.length
 have x1:=cY tb [⟨[],0,[]⟩] 0
 have x2:=cY ta (q.1++[⟨[],0,[]⟩]) q.1.length
 rw [hb] at l1 x1
 rw [ha] at l2 x2
 have y1:=x1.1
 have y2:=x2.1
 simp at l1 l2 y1 y2
 have z0:Cl [⟨[],0,[]⟩] r.1.length:=fun j p hp=>by
  cases j with
  | succ j=>simp at hp
  | zero=>
   simp at hp
   subst hp
   exact ⟨by show 0<r.1.length;omega,fun x hx=>(by cases hx)⟩
 have c1:=mA tb [⟨[],0,[]⟩] 0 r.1.length z0 (by omega) (by rw [hb];omega)
 rw [hb] at c1
 have c2:=mA ta (q.1++[⟨[],0,[]⟩]) q.1.length r.1.length (c1.1.app (by show 0<r.1.length;omega) (fun x hx=>(by cases hx))) (by omega) (by rw [ha];exact Nat.le_refl _)
 rw [ha] at c2
 have f1:=lZ tb [⟨[],0,[]⟩] 0 (fun q hq=>by rw [List.mem_singleton] at hq;subst hq;simp) pK
 rw [hb] at f1
 have f2:=lZ ta (q.1++[⟨[],0,[]⟩]) q.1.length (f1.app (by simp)) PJ
 rw [ha] at f2
 subst e1 e2 e3
 exact ⟨c2.1,f2.len,by omega,c1.2,c2.2⟩
def WJ (W:World) (ta tb:PT) (e:Ending) (w':World):Prop:=
 ∃ (u:List UInt8) (f:Bool),e = .returned (.tuple #[.string (aE u),.bool f])/\(f=true->iT ta tb u/\u.length<=100000000)/\(f=false->u=[]/\∀ s,¬ iT ta tb s)/\W.grownBy w' none
theorem RV {W:World} {Y:Nat->Prop} {ta tb:PT} {pa pb:Nat} (XT:TR W Y ta pa) (X4:TR W Y tb pb) (oka:aX ta) (okb:aX tb) (PJ:aP ta<=1000) (pK:aP tb<=1000) (hT:nU W):
  Calls Tryz.prog 137 #[.pointer (some ⟨pa,0,none⟩),.pointer (some ⟨pb,0,none⟩)] W fun e w'=>WJ W ta tb e w':=by
 have aFR:TR W (fun _=>False) ta pa:=TR.reY (fun _ _ h=>h.elim) XT
 have aFQ:TR W (fun _=>False) tb pb:=TR.reY (fun _ _ h=>h.elim) X4
 have HN:=aB (aE1 W)
 have HA:=aB (And.intro aFR (And.intro aFQ (And.intro oka (And.intro okb hT))))
 clear XT X4 aFR aFQ oka okb hT
 go_enter Tryz.func137,Tryz.ntmps137
 go_wp2_with fail
 refine (aA HN).mono ?_
 rintro e w1 ⟨mb,sb,rfl,E9⟩
 obtain ⟨c0,c1,c2,c3,cf⟩:=E9.cells
 have cf2:=cf 2
 have HL:=aB (FZ (w0:=W) (b:=mb) tb (aA HA).2.2.2.1 w1.drew (fun k=>k<W.heap.size\/k=sb) [⟨[],0,[]⟩] 0 0 0 pb (aA HA).2.1 (fun k hk => .inl hk) E9.below.drew E9.lt E9.m.drew (by simp;omega))
 have H1:=aB E9
 clear E9 cf
 go_wp2_with fail
 go_region_held3 (fun w'=>w'.cell? ⟨sb,0,none⟩=some (.pointer (some ⟨mb,0,none⟩))/\w'.cell? ⟨mb,2,none⟩=some (.int .i64 ((0:Nat):Int))) (go_keep) (first
  | (go_at_call 141;refine (aA HL).mono ?_;rintro e w2 ⟨rfl,mE,hK2⟩;have nP:=SE.of_kp (aA H1) mE ((Kp.drew _ _).trans hK2);have d0:=nP.cells.1;have d2:=nP.cells.2.2.1;have d3:=nP.cells.2.2.2.1;have df:=nP.cells.2.2.2.2 2;have uL:=nP.setG 2 (bJ tb [⟨[],0,[]⟩] 0).2 0 (bJ tb [⟨[],0,[]⟩] 0).2 (.inr ⟨rfl,rfl,rfl⟩);have t0:=uL.cells.1;have t3:=uL.cells.2.2.2.1;have H3:=aB uL;clear mE hK2 nP uL))
 have oN:=fL tb [⟨[],0,[]⟩] 0
 simp only [List.length_cons,List.length_nil] at oN
 have uL:=aA H3
 generalize hq:bJ tb [⟨[],0,[]⟩] 0=qb at *
 have Hq:=aB hq
 obtain ⟨S1,beh⟩:=qb
 simp only at uL oN ⊢
 clear hq H3 t0 t3 d0 d2 d3 df HL H1 c0 c1 c2 c3 cf2
 generalize w2.setCell ⟨sb,2,none⟩ (.int .i64 (beh:Int))=w3 at *
 obtain ⟨c0,c1,c2,c3,cf⟩:=uL.cells
 have cf1:=cf 1
 have HL:=aB (JL ⟨[],0,[]⟩ 0 (.slice none 0 0) iX uL.m (by omega) (World.ownsRow_nil _ _ _ _) (fun k hk=>by cases hk) uL.lt)
 have H1:=aB uL
 clear uL cf
 go_wp2_with fail
 refine (aA HL).mono ?_
 rintro e w4 ⟨rfl,mE,hK2⟩
 have nP:=SE.of_kp (aA H1) mE hK2
 have d0:=nP.cells.1
 have d2:=nP.cells.2.1
 have df:=nP.cells.2.2.2.2 1
 have uL:=nP.setG 1 S1.length S1.length beh (.inl ⟨rfl,rfl,rfl⟩)
 have t0:=uL.cells.1
 have t1:=uL.cells.2.1
 have HL:=aB (fun w' (hd:∃ n,w'=(w4.setCell ⟨sb,1,none⟩ (.int .i64 (S1.length:Int))).drewN n)=>FZ (w0:=W) (b:=mb) ta (aA HA).2.2.1 w' (fun k=>k<W.heap.size\/k=sb) (S1++[⟨[],0,[]⟩]) S1.length 0 0 pa (aA HA).1 (fun k hk => .inl hk) (by obtain ⟨n,rfl⟩:=hd;exact ⟨uL.below.os,uL.below.tape,uL.below.output,uL.below.size,uL.below.block⟩) (by obtain ⟨n,rfl⟩:=hd;exact uL.lt) (by obtain ⟨n,rfl⟩:=hd;exact uL.m.drewN n) (by simp;omega))
 have H3:=aB uL
 clear mE hK2 nP uL H1 c0 c1 c2 c3 cf1
 go_wp2_with fail
 generalize hqa:bJ ta (S1++[⟨[],0,[]⟩]) S1.length=qa at *
 have Hqa:=aB hqa
 clear hqa
 obtain ⟨F,start⟩:=qa
 simp only at HL
 go_region_held3 (fun w'=>w'.cell? ⟨sb,0,none⟩=some (.pointer (some ⟨mb,0,none⟩))/\w'.cell? ⟨sb,1,none⟩=some (.int .i64 (S1.length:Int))) (go_keep) (first
  | (go_at_call 141;refine (aA HL _ ⟨1,rfl⟩).mono ?_;rintro e w6 ⟨rfl,hM6,uK⟩;have XX:=SE.of_kp (aA H3) hM6 ((Kp.drewN _ _ 1).trans uK);have u0:=XX.cells.1;have u1:=XX.cells.2.1;have H6:=aB XX;clear hM6 uK XX))
 have htw:ER ta tb=(F,S1.length,beh,start):=by
  unfold ER
  simp only [aA Hq,aA Hqa]
 have XX:=aA H6
 obtain ⟨XT,X4,oka,okb,hT⟩:=aA HA
 obtain ⟨f1,f2,f3,f4,f5⟩:=YI PJ pK htw
 have hT6:nU w6:=fun j hj=>by rw [World.cell?_of_block (a:=⟨1,j,none⟩) (XX.gr.block _ hT.lt (by simp))];exact hT j hj
 have HS:=aB (O3 (wm:=w6) (Br:=w6.heap.size) (s0:=(0,start,start)) (XX.m.reY (fun k hk e=>by omega)) f1 f2 f3 f4 ⟨by show 0<4;decide,f5,f5⟩ (Kp.refl _ _) XX.s hT6)
 have HR:=aB (And.intro htw (And.intro XX.gr (And.intro oka okb)))
 clear HL t0 t1 d0 d2 df XX XT X4 oka okb hT f1 f2 f3 f4 f5 hT6 htw u0 u1
 unfold nC at HS
 go_wp2_with fail
 refine (aA HS).mono ?_
 rintro e w7 ⟨u,f,rfl,h1,h2,EK⟩
 have H7:=aB (And.intro h1 (And.intro h2 EK))
 clear h1 h2 EK HS
 go_wp2
 go_ret2
 obtain ⟨htw,d8,oka,okb⟩:=aA HR
 obtain ⟨h1,h2,EK⟩:=aA H7
 have key:∀ s,Way F S1.length beh (0,start,start) s (3,0,0)↔iT ta tb s:=fun s=>by
  have:=YH oka okb s
  rw [htw] at this
  exact this
 exact ⟨u,f,rfl,fun hf=>⟨(key u).1 (h1 hf).1,(h1 hf).2⟩,fun hf=>⟨(h2 hf).1,fun s hs=>(h2 hf).2 s ((key s).2 hs)⟩,d8.trans EK⟩
theorem YT {tp tq:PT} (hsp:aP tp<=1000) (hsq:aP tq<=1000) {F:List cA} {a b:Nat} (h:shM tp tq=(F,a,b)):Cl F F.length/\(∀ x,bZ F x<=1000)/\F.length<=4000/\0<F.length/\a<F.length/\b<F.length:=by
 unfold shM at h
 simp only at h
 generalize hb:bJ tp [⟨[],0,[]⟩] 0=q at h
 generalize ha:bJ tq q.1 0=r at h
 have e1:r.1=F:=congrArg (·.1) h
 have e2:q.2=a:=congrArg (·.2.1) h
 have e3:r.2=b:=congrArg (·.2.2) h
 have l1:=fL tp [⟨[],0,[]⟩] 0
 have l2:=fL tq q.1 0
 have x1:=cY tp [⟨[],0,[]⟩] 0
 have x2:=cY tq q.1 0
 rw [hb] at l1 x1
 rw [ha] at l2 x2
 have y1:=x1.1
 have y2:=x2.1
 simp at l1 l2 y1 y2
 have z0:Cl [⟨[],0,[]⟩] r.1.length:=fun j p hp=>by
  cases j with
  | succ j=>simp at hp
  | zero=>
   simp at hp
   subst hp
   exact ⟨by show 0<r.1.length;omega,fun x hx=>(by cases hx)⟩
 have c1:=mA tp [⟨[],0,[]⟩] 0 r.1.length z0 (by omega) (by rw [hb];omega)
 rw [hb] at c1
 have c2:=mA tq q.1 0 r.1.length c1.1 (by omega) (by rw [ha];exact Nat.le_refl _)
 rw [ha] at c2
 have f1:=lZ tp [⟨[],0,[]⟩] 0 (fun q hq=>by rw [List.mem_singleton] at hq;subst hq;simp) hsp
 rw [hb] at f1
 have f2:=lZ tq q.1 0 f1 hsq
 rw [ha] at f2
 subst e1 e2 e3
 exact ⟨c2.1,f2.len,by omega,by omega,c1.2,c2.2⟩
def VX (W:World) (tp tq:PT) (e:Ending) (w':World):Prop:=
 ∃ (u:List UInt8) (f:Bool),e = .returned (.tuple #[.string (aE u),.bool f])/\(f=true->(M tp u/\M tq u)/\u.length<=100000000)/\(f=false->u=[]/\∀ s,¬ (M tp s/\M tq s))/\W.grownBy w' none
theorem YQ {W:World} {Y:Nat->Prop} {tp tq:PT} {pp pq:Nat} (hTp:TR W Y tp pp) (hTq:TR W Y tq pq) (okp:aX tp) (okq:aX tq) (hsp:aP tp<=1000) (hsq:aP tq<=1000) (hT:nU W):
  Calls Tryz.prog 134 #[.pointer (some ⟨pp,0,none⟩),.pointer (some ⟨pq,0,none⟩)] W fun e w'=>VX W tp tq e w':=by
 have aFP:TR W (fun _=>False) tp pp:=TR.reY (fun _ _ h=>h.elim) hTp
 have aFO:TR W (fun _=>False) tq pq:=TR.reY (fun _ _ h=>h.elim) hTq
 have HN:=aB (aE1 W)
 have HA:=aB (And.intro aFP (And.intro aFO (And.intro okp (And.intro okq hT))))
 clear hTp hTq aFP aFO okp okq hT
 go_enter Tryz.func134,Tryz.ntmps134
 go_wp2_with fail
 refine (aA HN).mono ?_
 rintro e w1 ⟨mb,sb,rfl,E9⟩
 obtain ⟨c0,c1,c2,c3,cf⟩:=E9.cells
 have oN:=fL tp [⟨[],0,[]⟩] 0
 simp only [List.length_cons,List.length_nil] at oN
 have HL:=aB (FZ (w0:=W) (b:=mb) tp (aA HA).2.2.1 w1.drew (fun k=>k<W.heap.size\/k=sb) [⟨[],0,[]⟩] 0 0 0 pp (aA HA).1 (fun k hk => .inl hk) E9.below.drew E9.lt E9.m.drew (by simp;omega))
 have H1:=aB E9
 clear E9 cf
 generalize hq:bJ tp [⟨[],0,[]⟩] 0=qb at *
 have Hq:=aB hq
 clear hq
 obtain ⟨S1,a⟩:=qb
 simp only at HL oN
 generalize cH:bJ tq S1 0=qc at *
 have Hq2:=aB cH
 clear cH
 obtain ⟨F,b⟩:=qc
 have Htw:Hid (shM tp tq=(F,a,b)):=aB (by unfold shM;simp only [aA Hq,aA Hq2])
 have Hsh:Hid (∀ w3,SE W w3 mb sb 0 0 F 0 0->Calls Tryz.prog 157 #[.pointer (some ⟨sb,0,none⟩),.agg #[.int .i64 3,.int .i64 (a:Int),.int .i64 (b:Int)]] w3 fun e w'=>WB w3 F 0 0 (3,a,b) 0 e w'):=aB (fun w3 uL=>by
  obtain ⟨f1,f2,f3,f4,f5,f6⟩:=YT hsp hsq (aA Htw)
  have hT:=(aA HA).2.2.2.2
  have K4:nU w3:=fun j hj=>by rw [World.cell?_of_block (a:=⟨1,j,none⟩) (uL.gr.block _ hT.lt (by simp))];exact hT j hj
  exact O3 (wm:=w3) (Br:=w3.heap.size) (s0:=(3,a,b)) (uL.m.reY (fun k hk e=>by omega)) f1 f2 f3 f4 ⟨by show 3<4;decide,f5,f6⟩ (Kp.refl _ _) uL.s K4)
 go_wp2_with fail
 go_region_held3 (fun w'=>w'.cell? ⟨sb,0,none⟩=some (.pointer (some ⟨mb,0,none⟩))/\w'.cell? ⟨mb,2,none⟩=some (.int .i64 ((0:Nat):Int))) (go_keep) (first
  | (go_at_call 141;refine (aA HL).mono ?_;rintro e w2 ⟨rfl,mE,hK2⟩;have nP:=SE.of_kp (aA H1) mE ((Kp.drew _ _).trans hK2);have d0:=nP.cells.1;have d3:=nP.cells.2.2.2.1;have HL2:=aB (FZ (w0:=W) (b:=mb) tq (aA HA).2.2.2.1 w2 (fun k=>k<W.heap.size\/k=sb) S1 0 0 0 pq (aA HA).2.1 (fun k hk => .inl hk) nP.below nP.lt nP.m (by omega));rw [aA Hq2] at HL2;have H2:=aB nP;clear mE hK2 nP HL)
  | (go_at_call 141;refine (aA HL2).mono ?_;rintro e w3 ⟨rfl,j9,hK3⟩;have uL:=SE.of_kp (aA H2) j9 hK3;have t0:=uL.cells.1;have t3:=uL.cells.2.2.2.1;have HS:=aB (aA Hsh w3 uL);have H3:=aB uL;clear j9 hK3 uL)
  | (go_at_call 157;refine (aA HS).mono ?_;rintro e w4 ⟨u,f,rfl,h1,h2,hg4⟩;have v0:=hg4.cell t0 (by simp);have v3:=hg4.cell t3 (by simp);have H4:=aB (And.intro h1 (And.intro h2 hg4));clear h1 h2 hg4))
 all_goals
  go_wp2
  go_ret2
  obtain ⟨h1,h2,hg4⟩:=aA H4
  obtain ⟨hTp,hTq,okp,okq,hT⟩:=aA HA
  have key:∀ s,Way F 0 0 (3,a,b) s (3,0,0)↔M tp s/\M tq s:=fun s=>by
   have:=YS okp okq 0 0 s
   rw [aA Htw] at this
   exact this
  exact ⟨u,f,rfl,fun hf=>⟨(key u).1 (h1 hf).1,(h1 hf).2⟩,fun hf=>⟨(h2 hf).1,fun s hs=>(h2 hf).2 s ((key s).2 hs)⟩,(aA H3).gr.trans hg4⟩
mutual
def aS (v:Bool):LT->PT
 | .same l _ _=>nf (.alt l)
 | .fixed l _ _ vw _ _=>if v then gM (vw.map fun c => .chr [c]) else nf (.alt l)
 | .swap _ a b=>gM (if v then [aS v b,aS v a] else [aS v a,aS v b])
 | .group a=>aS v a
 | .many _ a => .rep 42 (aS v a)
 | .row l _=>gM (aW v l)
 | .choice l _=>rF (aW v l)
def aW (v:Bool):List LT->List PT
 | []=>[]
 | t::l=>aS v t::aW v l
end
theorem zW (v:Bool):∀ (l:List LT) (t:LT),aW v (l++[t])=aW v l++[aS v t]
 | [],t=>by rw [List.nil_append,aW,aW,aW];rfl
 | u::l,t=>by rw [List.cons_append,aW,aW,zW v l t];rfl
theorem pW (v:Bool):∀ l:List LT,(aW v l).length=l.length
 | []=>by rw [aW];rfl
 | t::l=>by rw [aW,List.length_cons,List.length_cons,pW v l]
def cL (v:Bool) (t:LT):List PT:=match t with
 | .swap _ a b=>if v then [aS v b,aS v a] else [aS v a,aS v b]
 | t=>aW v (parts t)
theorem aBB {w:World} {Y:Nat->Prop} {t:PT} {g:Nat} (hT:TR w Y t g) (hY:∀ k,Y k->k<w.heap.size):
  Calls Tryz.prog 139 #[.pointer (some ⟨g,0,none⟩)] w fun e w'=>rE w Y (.rep 42 t) e w':=by
 have HF:Hid (rE w Y (.rep 42 t) (.returned (.pointer (some ⟨w.heap.size+1,0,none⟩))) ((w.alloc (.cells #[.pointer (some ⟨g,0,none⟩)] 116)).alloc (vG 3 0 (.slice (some ⟨w.heap.size,0,none⟩) 1 1)))):=by
  refine ⟨w.heap.size+1,rfl,(World.grownBy_alloc _ _ _).trans (World.grownBy_alloc _ _ _),?_⟩
  rw [TR]
  refine ⟨fun hy=>by have:=hY _ hy;omega,.slice (some ⟨w.heap.size,0,none⟩) 1 1,g,bC w _ _,⟨?_,fun k e hy=>?_⟩,?_⟩
  ·exact (World.ownsRow_lit (base:=0) (e:=116) (size:=1) w #[.pointer (some ⟨g,0,none⟩)] 1 (by omega) (by unfold maxLen;omega) rfl).alloc _
  ·have:=hY k hy
   simp [Value.ownBlock] at e
   omega
  ·refine TR.kept (fun k hk hy=>?_) hT
   rw [Below.heap_alloc _ _ _ (by simp;omega),Below.heap_alloc _ _ _ (by omega)]
 clear hT hY
 go_enter Tryz.func139,Tryz.ntmps139
 go_wp2
 go_ret
 exact aA HF
structure uM (w:World) (Y:Nat->Prop) (A:World) (v:Value) (gs:List Nat) (ts:List PT):Prop where
 own:A.ownsRow 0 116 1 v gs.length (bD gs)
 nil:gs=[]->v = .slice none 0 0
 far:∀ k,v.ownBlock=some k->w.heap.size<=k
 trl:dN A (fun k=>Y k\/v.ownBlock=some k) ts gs
 gr:w.grownBy A none
theorem uM.start (w:World) (Y:Nat->Prop):uM w Y w (.slice none 0 0) [] [] where
 own:=World.ownsRow_nil _ _ _ _
 nil:=fun _=>rfl
 far:=fun k hk=>by cases hk
 trl:=by rw [dN];trivial
 gr:=World.grownBy.refl _ _
theorem dN.snoc {w:World} {Y:Nat->Prop}:∀ {l:List PT} {gs:List Nat} {t:PT} {g:Nat},dN w Y l gs->TR w Y t g->dN w Y (l++[t]) (gs++[g])
 | [],[],t,g,_,h=>by rw [List.nil_append,List.nil_append,dN];exact ⟨h,by rw [dN];trivial⟩
 | u::l,k::gs,t,g,h',h=>by rw [dN] at h';rw [List.cons_append,List.cons_append,dN];exact ⟨h'.1,dN.snoc h'.2 h⟩
 | [],k::ks,_,_,h',_=>by simp [dN] at h'
 | u::l,[],_,_,h',_=>by simp [dN] at h'
theorem uM.push {w:World} {Y:Nat->Prop} {A w3 w5:World} {ao:Option Addr} {cp g5 cap5 g:Nat} {gs:List Nat} {ts:List PT} {t:PT} {o:Obj} (h:uM w Y A (.slice ao gs.length cp) gs ts) (hg3:A.grownBy w3 none) (hT:TR w3 (fun k=>Y k\/(Value.slice ao gs.length cp).ownBlock=some k) t g)
  (bB:w5.ownsRow 0 116 1 (.slice (some ⟨g5,0,none⟩) (gs.length+1) cap5) (gs.length+1) (bD gs++[.pointer (some ⟨g,0,none⟩)])) (aL:(w3.alloc o).grownBy w5 (Value.slice ao gs.length cp).ownBlock) (bW:(Value.slice ao gs.length cp).ownBlock=some g5\/g5=w3.heap.size+1):
  uM w Y w5 (.slice (some ⟨g5,0,none⟩) (gs.length+1) cap5) (gs++[g]) (ts++[t]):=by
 have hs3:=hg3.size
 have hsA:=h.gr.size
 have old:∀ k,k<w3.heap.size->¬ ((Y k\/(Value.slice ao gs.length cp).ownBlock=some k)\/w3.heap.size<=k)->w5.heap[k]? = w3.heap[k]? := fun k hk hn=>by
  rw [aL.block k (by simp;omega) (fun e=>hn (.inl (.inr e.symm)))]
  exact Below.heap_alloc _ _ _ hk
 have up:∀ k,k<w3.heap.size->((Y k\/(Value.slice ao gs.length cp).ownBlock=some k)\/w3.heap.size<=k)->(Y k\/(Value.slice ao gs.length cp).ownBlock=some k):=fun k hk hz=>hz.resolve_right (by omega)
 have dn:∀ k,k<w5.heap.size->(Y k\/(Value.slice (some ⟨g5,0,none⟩) (gs.length+1) cap5).ownBlock=some k)->((Y k\/(Value.slice ao gs.length cp).ownBlock=some k)\/w3.heap.size<=k):=fun k _ hz=>by
  rcases hz with hz | hz
  ·exact .inl (.inl hz)
  ·simp only [Value.ownBlock,Option.some.injEq] at hz
   subst hz
   rcases bW with h1 | h1
   ·exact .inl (.inr h1)
   ·exact .inr (by omega)
 have h3:dN w3 (fun k=>Y k\/(Value.slice ao gs.length cp).ownBlock=some k) ts gs:=dN.kept (fun k hk _=>hg3.block k hk (by simp)) h.trl
 exact {
  own:=by simpa [bD] using bB
  nil:=fun e=>by simp at e
  far:=fun k hk=>by
   simp only [Value.ownBlock,Option.some.injEq] at hk
   subst hk
   rcases bW with h1 | h1
   ·exact h.far _ h1
   ·omega
  trl:=dN.snoc (dN.reY dn (dN.kept old (dN.reY up h3))) (TR.reY dn (TR.kept old (TR.reY up hT)))
  gr:=by
   refine ⟨aL.os.trans (hg3.os.trans h.gr.os),aL.tape.trans (hg3.tape.trans h.gr.tape),aL.output.trans (hg3.output.trans h.gr.output),by have:=aL.size;simp at this;omega,fun k hk hn=>?_⟩
   rw [aL.block k (by simp;omega) (fun e=>by have:=h.far k e.symm;omega),Below.heap_alloc _ _ _ (by omega),hg3.block k (by omega) (by simp)]
   exact h.gr.block k hk hn}
theorem aE6 {w:World} {Y:Nat->Prop} {l:List UInt8} (hl:∀ c,c∈l->bG (c.toNat:Int)=true) (hn:l.length<=1000) (hY:∀ k,Y k->k<w.heap.size):
  Calls Tryz.prog 138 #[.string (aE l)] w fun e w'=>rE w Y (gM (l.map fun c => .chr [c])) e w':=by
 obtain ⟨i1,lW,hz0,hz1,hz2⟩:=info_parts Tryz.infoPtr
 have hts:(aE l).size=l.length:=aO l
 have H0:=aB (uM.start w Y)
 go_enter Tryz.func138,Tryz.ntmps138
 go_wp2_with fail
 go_loopg [3,7] (l.length+1) (fun gk v3 v7 wv=>∃ (k:Nat) (gs:List Nat),v7 = .int .i64 (k:Int)/\k<=l.length/\l.length-k<gk/\gs.length=k/\uM w Y wv v3 gs ((l.map fun c=>PT.chr [c]).take k))
 case atStart=>exact ⟨0,[],rfl,Nat.zero_le _,by omega,rfl,by rw [List.take_zero];exact aA H0⟩
 case round=>
  clear H0
  obtain ⟨k,gs,rfl,hk,fW,eC,hR⟩:=hrel
  obtain ⟨ao,cp,rfl⟩:=aG hR.own
  have Hgl:=aB eC
  by_cases hlt:k<l.length
  ·have hd:(k:Int)<((aE l).size:Int):=by rw [hts];omega
   have hkt:k<(aE l).size:=by rw [hts];exact hlt
   have W8:(aE l)[k]=l[k]:=rfl
   have rA:gs.length<=1000:=by omega
   have gE:=hl (l[k]) (List.getElem_mem hlt)
   have HS:=aB (aBA (l[k].toNat:Int) gE wr)
   rw [← W8] at HS
   have hown:=hR.own
   have HR:=aB hR
   clear hR eC gE
   go_wp2_with fail
   refine (aA HS).mono ?_
   rintro e w3 ⟨g,rfl,hg3,K4⟩
   have dW:=aI hown (fun j e=>hg3.block j (aJ hown j e) (by simp))
   have H3:=aB (And.intro hg3 (And.intro K4 W8))
   clear hg3 K4 HS hown W8
   go_wp2_with (at_builtin;refine wpList_append_lies _ rfl (.tmp 10) (.tmp 15) 162 rfl 0 116 i1 _ 1 8 Tryz.underlying162 lW hz0 hz1 hz2 rfl (by decide) (.slice ao gs.length cp) gs.length (bD gs) rfl (dW.alloc _) ⟨w3.heap.size,0,none⟩ 1 1 [.pointer (some ⟨g,0,none⟩)] rfl rfl (World.news_of_block (cs := #[.pointer (some ⟨g,0,none⟩)]) (heap_alloc_new w3 _)) (by simp [Value.oneCell']) (by omega) (by unfold maxLen;omega) (by omega) (by omega) (w3.heap.size+1) (by simp) ?_)
   intro g5 cap5 w5 bB aL bW gH
   have H5:=aB (And.intro bB (And.intro aL bW))
   clear bB aL bW gH dW
   go_wp2_with fail
   go_roundg (l.length-k)
   case measure=>exact fW
   case rel=>
    obtain ⟨bB,aL,bW⟩:=aA H5
    obtain ⟨hg3,K4,W8⟩:=aA H3
    have hR:=aA HR
    refine ⟨k+1,gs++[g],by simp,by omega,by omega,by simp [aA Hgl],?_⟩
    have hT:TR w3 (fun j=>Y j\/(Value.slice ao gs.length cp).ownBlock=some j) (.chr [l[k]]) g:=by
     rw [W8] at K4
     have e:UInt8.ofNat ((l[k].toNat:Int)).toNat=l[k]:=by simp
     rw [e] at K4
     exact TR.reY (fun j hj hz=>by
      rcases hz with hz | hz
      ·have:=hY j hz;have:=hR.gr.size;omega
      ·exact aJ hR.own j hz) K4
    have:=hR.push hg3 hT bB aL bW
    rw [List.take_add_one,List.getElem?_map,List.getElem?_eq_getElem hlt]
    exact this
  ·have L7:k=l.length:=by omega
   subst L7
   have hd:¬ ((l.length:Int)<((aE l).size:Int)):=by rw [hts];omega
   rw [List.take_of_length_le (by simp)] at hR
   have HP:=aB (RN hR.own hR.nil (by omega) (dN.reY (fun j _ hz => .inl hz) hR.trl) (fun j hj=>by have:=hY j hj;have:=hR.gr.size;omega))
   have HG:=aB hR.gr
   clear hR eC
   go_wp2_with fail
   refine (aA HP).mono ?_
   rintro e w4 ⟨g,rfl,hg4,XU⟩
   have H4:=aB (And.intro hg4 XU)
   clear hg4 XU
   go_wp2
   go_ret
   exact ⟨g,rfl,(aA HG).trans (aA H4).1,(aA H4).2⟩
def vOk:LT->Prop
 | .fixed _ _ _ v _ _=>(∀ c,c∈v->bG (c.toNat:Int)=true)/\v.length<=1000
 | t=>(parts t).length<=1000
def J3 (t:LT):Prop:=∀ u,u∈subs t->vOk u
theorem J3.part {t u:LT} (h:J3 t) (hu:u∈parts t):J3 u:=fun x hx=>h x (by rw [gK];exact List.mem_cons_of_mem _ (mJ _ u x hu hx))
theorem J3.self {t:LT} (h:J3 t):vOk t:=h t (by rw [gK];exact List.mem_cons_self)
theorem J3.len {t:LT} (h:J3 t):(parts t).length<=1000:=by
 have:=h.self
 cases t <;> first | exact this | simp [parts]
def aZ:LT->Int
 | .same _ _ _=>0
 | .fixed _ _ _ _ _ _=>1
 | .swap _ _ _=>2
 | .group _=>3
 | .many _ _=>4
 | .row _ _=>5
 | .choice _ _=>6
theorem gX {s:ByteArray} {w:World} {Y:Nat->Prop} {t:LT} {g:Nat} (h:LR s w Y t g):¬ Y g/\∃ pv jv pat wr vw df a gs,w.heap[g]? = some (rG (aZ t) pv jv pat wr vw df a)/\w.ownsRow 0 54 1 pv gs.length (bD gs)/\(∀ k,pv.ownBlock=some k->¬ Y k)/\eN s w Y (parts t) gs:=by
 cases t with
 | same l i j=>rw [LR] at h;obtain ⟨h0,p,h1,h2⟩:=h;exact ⟨h0,_,_,_,_,_,_,_,[],h1,World.ownsRow_nil _ _ _ _,fun k hk=>(by cases hk),by rw [parts,eN];trivial⟩
 | fixed l i j v d a=>rw [LR] at h;obtain ⟨h0,p,h1,h2⟩:=h;exact ⟨h0,_,_,_,_,_,_,_,[],h1,World.ownsRow_nil _ _ _ _,fun k hk=>(by cases hk),by rw [parts,eN];trivial⟩
 | swap at_ a b=>rw [LR] at h;obtain ⟨h0,v,jv,ga,gb,h1,h2,h3,h4,h5⟩:=h;exact ⟨h0,_,_,_,_,_,_,_,[ga,gb],h1,h2.1,h2.2,by rw [parts,eN,eN,eN];exact ⟨h4,h5,trivial⟩⟩
 | group a=>rw [LR] at h;obtain ⟨h0,v,ga,h1,h2,h4⟩:=h;exact ⟨h0,_,_,_,_,_,_,_,[ga],h1,h2.1,h2.2,by rw [parts,eN,eN];exact ⟨h4,trivial⟩⟩
 | many at_ a=>rw [LR] at h;obtain ⟨h0,v,jv,ga,h1,h2,h3,h4⟩:=h;exact ⟨h0,_,_,_,_,_,_,_,[ga],h1,h2.1,h2.2,by rw [parts,eN,eN];exact ⟨h4,trivial⟩⟩
 | row l ps=>rw [LR] at h;obtain ⟨h0,v,jv,gs,h1,h2,h3,h4⟩:=h;exact ⟨h0,_,_,_,_,_,_,_,gs,h1,h2.1,h2.2,h4⟩
 | choice l ps=>rw [LR] at h;obtain ⟨h0,v,jv,gs,h1,h2,h3,h4⟩:=h;exact ⟨h0,_,_,_,_,_,_,_,gs,h1,h2.1,h2.2,h4⟩
def rR (v:Bool):Int:=if v then 1 else 0
def iC (s:ByteArray) (v:Bool) (t:LT):Prop:=∀ (w:World) (Y:Nat->Prop) (g:Nat),LR s w Y t g->J3 t->(∀ k,Y k->k<w.heap.size)->
 Calls Tryz.prog 97 #[.int .i64 (rR v),.pointer (some ⟨g,0,none⟩)] w fun e w'=>rE w Y (aS v t) e w'
def OX (w:World) (Y:Nat->Prop) (v:Bool) (t:LT) (e:Ending) (w':World):Prop:=∃ v' gs,e = .returned v'/\uM w Y w' v' gs (cL v t)
theorem nK {s:ByteArray} {w:World} {Y:Nat->Prop}:∀ {l:List LT} {gs:List Nat},eN s w Y l gs->gs.length=l.length/\∀ (k:Nat) (t:LT) (g:Nat),l[k]? = some t->gs[k]? = some g->LR s w Y t g
 | [],[],_=>⟨rfl,fun k t g h=>by simp at h⟩
 | t::l,g::gs,h=>by
  rw [eN] at h
  obtain ⟨q1,q2⟩:=nK h.2
  refine ⟨by simp [q1],fun k u x hu hx=>?_⟩
  cases k with
  | zero=>simp at hu hx;subst hu hx;exact h.1
  | succ k=>exact q2 k u x (by simpa using hu) (by simpa using hx)
 | [],k::ks,h=>by simp [eN] at h
 | t::l,[],h=>by simp [eN] at h
theorem uM.turn {w:World} {Y:Nat->Prop} {A w6:World} {ao:Option Addr} {cp:Nat} {gs:List Nat} {t:LT} (h:uM w Y A (.slice ao gs.length cp) gs (aW true (parts t))) (h2:aZ t=2) (hown:w6.ownsRow 0 116 1 (.slice ao gs.length cp) gs.length (bD gs.reverse)) (hg:A.grownBy w6 (Value.slice ao gs.length cp).ownBlock):
  uM w Y w6 (.slice ao gs.length cp) gs.reverse (cL true t):=by
 cases t with
 | swap at_ a b=>
  have hT:=h.trl
  rw [show aW true (parts (.swap at_ a b))=[aS true a,aS true b] by simp [parts,aW]] at hT
  match gs,hT with
  | [x,y],hT=>
   simp only [dN] at hT
   refine ⟨by simpa using hown,fun e=>by simp at e,h.far,?_,?_⟩
   ·show dN w6 _ [aS true b,aS true a] [y,x]
    have key:∀ k,k<A.heap.size->¬ (Y k\/(Value.slice ao [x,y].length cp).ownBlock=some k)->w6.heap[k]? = A.heap[k]? := fun k hk hn=>hg.block k hk (fun e=>hn (.inr e.symm))
    simp only [dN]
    exact ⟨TR.kept key hT.2.1,TR.kept key hT.1,trivial⟩
   ·exact ⟨hg.os.trans h.gr.os,hg.tape.trans h.gr.tape,hg.output.trans h.gr.output,Nat.le_trans h.gr.size hg.size,fun k hk hn=>(hg.block k (Nat.lt_of_lt_of_le hk h.gr.size) (fun e=>by have:=h.far k e.symm;omega)).trans (h.gr.block k hk hn)⟩
  | [],hT=>simp [dN] at hT
  | [x],hT=>simp [dN] at hT
  | x::y::z::r,hT=>simp [dN] at hT
 | _=>simp [aZ] at h2
theorem U2 {s:ByteArray} {v:Bool} {t:LT} (ih:∀ u,u∈parts t->iC s v u) {w:World} {Y:Nat->Prop} {g:Nat} (hL:LR s w Y t g) (hO:J3 t) (hY:∀ k,Y k->k<w.heap.size):
  Calls Tryz.prog 106 #[.int .i64 (rR v),.pointer (some ⟨g,0,none⟩)] w fun e w'=>OX w Y v t e w':=by
 obtain ⟨i1,lW,hz0,hz1,hz2⟩:=info_parts Tryz.infoPtr
 obtain ⟨wE,pv,jv,pat,wr0,vw,df,a,gs0,hb,nX,f9,E6⟩:=gX hL
 obtain ⟨ao0,cp0,rfl⟩:=aG nX
 obtain ⟨hlen,hat⟩:=nK E6
 have c1:w.cell? ⟨g,1,none⟩=some (.slice ao0 gs0.length cp0):=by rw [aC hb 1];rfl
 have H0:=aB (uM.start w Y)
 have HE:=aB (And.intro hb (And.intro nX (And.intro f9 (And.intro hlen (And.intro hat (And.intro ih hO))))))
 have hg0:gs0.length<=1000:=by have:=hO.len;omega
 clear hL hb nX f9 E6 hlen hat ih hO
 go_enter Tryz.func106,Tryz.ntmps106
 go_wp2_with fail
 clear c1
 go_loopg [5,13] (gs0.length+1) (fun gk v5 v13 wv=>∃ (k:Nat) (gs:List Nat),v13 = .int .i64 (k:Int)/\k<=gs0.length/\gs0.length-k<gk/\gs.length=k/\uM w Y wv v5 gs (aW v ((parts t).take k)))
 case atStart=>exact ⟨0,[],rfl,Nat.zero_le _,by omega,rfl,by rw [List.take_zero,aW];exact aA H0⟩
 case round=>
  clear H0
  obtain ⟨k,gs,rfl,hk,fW,eC,hR⟩:=hrel
  obtain ⟨ao,cp,rfl⟩:=aG hR.own
  obtain ⟨hb,nX,f9,hlen,hat,ih,hO⟩:=aA HE
  have Hgl:=aB eC
  have rA:gs.length<=1000:=by omega
  by_cases hlt:k<gs0.length
  ·have hd:(k:Int)<(gs0.length:Int):=by omega
   obtain ⟨vb,cap,fM,_,dB⟩:=nX.form (by omega)
   injection fM with hao _ nY
   subst hao
   subst nY
   obtain ⟨x,hx⟩:∃ x,gs0[k]? = some x:=⟨_,List.getElem?_eq_getElem hlt⟩
   obtain ⟨u,hu⟩:∃ u,(parts t)[k]? = some u:=⟨_,List.getElem?_eq_getElem (by omega)⟩
   have ck:wr.cell? ⟨vb,k,none⟩=some (.pointer (some ⟨x,0,none⟩)):=by
    rw [World.cell?_of_block (w:=w) (w':=wr) (a:=⟨vb,k,none⟩) (hR.gr.block vb dB (by simp)),nX.cellAt k (by omega)]
    simp [bD,hx]
   have UK:LR s wr (fun j=>Y j\/(Value.slice ao gs.length cp).ownBlock=some j) u x:=by
    have h1:LR s w (fun j=>Y j\/w.heap.size<=j) u x:=LR.reY (fun j hj hz=>hz.resolve_right (by omega)) (hat k u x hu hx)
    exact LR.reY (fun j _ hz=>hz.imp id (fun e=>hR.far j e)) (LR.kept (fun j hj _=>hR.gr.block j hj (by simp)) h1)
   have HT:=aB (ih u (List.mem_of_getElem? hu) wr _ x UK (hO.part (List.mem_of_getElem? hu)) (fun j hj=>by
    rcases hj with hj | hj
    ·have:=hY j hj;have:=hR.gr.size;omega
    ·exact aJ hR.own j hj))
   have hown:=hR.own
   have HR:=aB (And.intro hR hu)
   clear hR eC hb nX f9 hlen hat ih hO hu UK hx
   go_wp2_with fail
   refine (aA HT).mono ?_
   rintro e w3 ⟨g3,rfl,hg3,K4⟩
   have dW:=aI hown (fun j e=>hg3.block j (aJ hown j e) (by simp))
   have H3:=aB (And.intro hg3 K4)
   clear hg3 K4 HT hown
   go_wp2_with (at_builtin;refine wpList_append_lies _ rfl (.tmp 17) (.tmp 21) 162 rfl 0 116 i1 _ 1 8 Tryz.underlying162 lW hz0 hz1 hz2 rfl (by decide) (.slice ao gs.length cp) gs.length (bD gs) rfl (dW.alloc _) ⟨w3.heap.size,0,none⟩ 1 1 [.pointer (some ⟨g3,0,none⟩)] rfl rfl (World.news_of_block (cs := #[.pointer (some ⟨g3,0,none⟩)]) (heap_alloc_new w3 _)) (by simp [Value.oneCell']) (by omega) (by unfold maxLen;omega) (by omega) (by omega) (w3.heap.size+1) (by simp) ?_)
   intro g5 cap5 w5 bB aL bW gH
   have H5:=aB (And.intro bB (And.intro aL bW))
   clear bB aL bW gH dW
   go_wp2_with fail
   go_roundg (gs0.length-k)
   case measure=>exact fW
   case rel=>
    obtain ⟨bB,aL,bW⟩:=aA H5
    obtain ⟨hg3,K4⟩:=aA H3
    obtain ⟨hR,hu⟩:=aA HR
    refine ⟨k+1,gs++[g3],by simp,by omega,by omega,by simp [aA Hgl],?_⟩
    rw [List.take_add_one,hu]
    show uM w Y w5 _ _ (aW v ((parts t).take k++[u]))
    rw [zW]
    exact hR.push hg3 K4 bB aL bW
  ·have L7:k=gs0.length:=by omega
   subst L7
   have hd:¬ ((gs0.length:Int)<(gs0.length:Int)):=by omega
   rw [List.take_of_length_le (by omega)] at hR
   have hbr:=(hR.gr.block g (aD hb) (by simp)).trans hb
   have c0:wr.cell? ⟨g,0,none⟩=some (.int .i64 (aZ t)):=by rw [aC hbr 0];rfl
   have HR:=aB hR
   clear hb nX f9 hlen hat ih hO hR hbr eC
   by_cases hsw:aZ t=2/\v=true
   ·obtain ⟨h2,rfl⟩:=hsw
    rw [h2] at c0
    have XB:rR true=1:=rfl
    rw [XB]
    have HV:=aB (aGI (aA HR).own (by omega))
    go_wp2_with fail
    refine (aA HV).mono ?_
    rintro e w6 ⟨rfl,qY,d8⟩
    have H6:=aB (And.intro qY d8)
    clear qY d8 HV
    go_wp2
    go_ret
    exact ⟨_,gs.reverse,rfl,(aA HR).turn h2 (aA H6).1 (aA H6).2⟩
   ·have hsp:cL v t=aW v (parts t):=by
     cases t <;> first | rfl | skip
     cases v with
     | true=>exact absurd ⟨rfl,rfl⟩ hsw
     | false=>simp [cL,parts,aW]
    have Hsp:=aB hsp
    by_cases h2:aZ t=2
    ·have hv:v=false:=by
      cases v with
      | true=>exact absurd ⟨h2,rfl⟩ hsw
      | false=>rfl
     subst hv
     rw [h2] at c0
     have XB:rR false=0:=rfl
     rw [XB]
     clear hsp hsw
     go_wp2_with fail
     go_ret
     exact ⟨_,gs,rfl,by rw [aA Hsp];exact aA HR⟩
    ·clear hsp hsw
     generalize aZ t=K at *
     generalize rR v=sd at *
     go_wp2_with fail
     go_ret
     exact ⟨_,gs,rfl,by rw [aA Hsp];exact aA HR⟩
theorem uM.trY {w:World} {Y:Nat->Prop} {A:World} {v:Value} {gs:List Nat} {ts:List PT} (h:uM w Y A v gs ts):dN A Y ts gs:=dN.reY (fun _ _ hz => .inl hz) h.trl
theorem rE.after {w w1:World} {Y:Nat->Prop} {t:PT} {e:Ending} {w':World} (hg:w.grownBy w1 none) (h:rE w1 Y t e w'):rE w Y t e w':=by
 obtain ⟨g,rfl,hg2,hT⟩:=h
 exact ⟨g,rfl,hg.trans hg2,hT⟩
theorem rE.ret {w:World} {Y:Nat->Prop} {t:PT} {e:Ending} {w':World} (h:rE w Y t e w'):∃ g,e = .returned (.pointer (some ⟨g,0,none⟩)):=by
 obtain ⟨g,rfl,_⟩:=h
 exact ⟨g,rfl⟩
theorem tK (v:Bool) (t:LT):(cL v t).length=(parts t).length:=by
 cases t <;> simp [cL,parts,pW]
 cases v <;> simp
theorem oF {s:ByteArray} {v:Bool} {t:LT} (hk:aZ t=2\/aZ t=3\/aZ t=5\/aZ t=6) (ht:aS v t=if aZ t=6 then rF (cL v t) else gM (cL v t)) (ih:∀ u,u∈parts t->iC s v u):iC s v t:=by
 intro w Y g hL hO hY
 obtain ⟨wE,pv,jv,pat,wr0,vw,df,a,gs0,hb,_,_,_⟩:=gX hL
 have c0:w.cell? ⟨g,0,none⟩=some (.int .i64 (aZ t)):=by rw [aC hb 0];rfl
 have HP:=aB (U2 ih hL hO hY)
 have hpl:=hO.len
 have fU:=tK v t
 have Ht:=aB (And.intro ht (And.intro fU hpl))
 clear hL hb ih hO ht fU hpl
 by_cases h6:aZ t=6
 ·rw [h6] at c0
  go_enter Tryz.func97,Tryz.ntmps97
  go_wp2_with fail
  refine (aA HP).mono ?_
  rintro e w1 ⟨v1,gs1,rfl,hR⟩
  obtain ⟨ao,cp,rfl⟩:=aG hR.own
  have HC:=aB (U6 hR.own hR.nil (by have:=hR.trY.len;have:=aA Ht;omega) hR.trY (fun k hk=>by have:=hY k hk;have:=hR.gr.size;omega))
  have HR:=aB hR.gr
  clear hR HP
  go_wp2_with fail
  refine (aA HC).mono ?_
  rintro e w2 hJ
  obtain ⟨g2,rfl⟩:=hJ.ret
  have HJ:=aB hJ
  clear hJ HC
  go_wp2
  go_ret
  rw [(aA Ht).1,if_pos h6]
  exact (aA HJ).after (aA HR)
 ·have n0:¬ (aZ t=0):=by omega
  have n1:¬ (aZ t=1):=by omega
  have n4:¬ (aZ t=4):=by omega
  have H6:=aB h6
  have Hk:=aB (rfl:aZ t=aZ t)
  generalize hK:aZ t=K at *
  clear hk hK
  go_enter Tryz.func97,Tryz.ntmps97
  go_wp2_with fail
  refine (aA HP).mono ?_
  rintro e w1 ⟨v1,gs1,rfl,hR⟩
  obtain ⟨ao,cp,rfl⟩:=aG hR.own
  have HC:=aB (RN hR.own hR.nil (by have:=hR.trY.len;have:=aA Ht;omega) hR.trY (fun k hk=>by have:=hY k hk;have:=hR.gr.size;omega))
  have HR:=aB hR.gr
  clear hR HP
  go_wp2_with fail
  refine (aA HC).mono ?_
  rintro e w2 hJ
  obtain ⟨g2,rfl⟩:=hJ.ret
  have HJ:=aB hJ
  clear hJ HC
  go_wp2
  go_ret
  rw [(aA Ht).1,if_neg (aA H6)]
  exact (aA HJ).after (aA HR)
theorem AY {s:ByteArray} {v:Bool} {at_:Nat} {u:LT} (ih:iC s v u):iC s v (.many at_ u):=by
 intro w Y g hL hO hY
 have PZ:J3 u:=hO.part (by simp [parts])
 rw [LR] at hL
 obtain ⟨wE,pv,jv,ga,hb,hw,_,UK⟩:=hL
 obtain ⟨vb,cap,rfl,_,dB⟩:=hw.1.form (by simp)
 have c0:w.cell? ⟨g,0,none⟩=some (.int .i64 4):=by rw [aC hb 0];rfl
 have c1:w.cell? ⟨g,1,none⟩=some (.slice (some ⟨vb,0,none⟩) 1 cap):=by rw [aC hb 1];rfl
 have ck:w.cell? ⟨vb,0,none⟩=some (.pointer (some ⟨ga,0,none⟩)):=by
  rw [hw.1.cellAt 0 (by simp)]
  rfl
 have HT:=aB (ih w Y ga UK PZ hY)
 clear hb hw UK hO PZ ih
 go_enter Tryz.func97,Tryz.ntmps97
 go_wp2_with fail
 refine (aA HT).mono ?_
 rintro e w1 ⟨g1,rfl,hg1,vR⟩
 have HM:=aB (aBB vR (fun k hk=>by have:=hY k hk;have:=hg1.size;omega))
 have H1:=aB hg1
 clear hg1 vR HT
 go_wp2_with fail
 refine (aA HM).mono ?_
 rintro e w2 hJ
 obtain ⟨g2,rfl⟩:=hJ.ret
 have HJ:=aB hJ
 clear hJ HM
 go_wp2
 go_ret
 rw [aS]
 exact (aA HJ).after (aA H1)
theorem AX {s:ByteArray} {v:Bool} {l:List PT} {i j:Nat}:iC s v (.same l i j):=by
 intro w Y g hL hO hY
 rw [LR] at hL
 obtain ⟨wE,p,hb,hT⟩:=hL
 have c0:w.cell? ⟨g,0,none⟩=some (.int .i64 0):=by rw [aC hb 0];rfl
 have c3:w.cell? ⟨g,3,none⟩=some (.pointer (some ⟨p,0,none⟩)):=by rw [aC hb 3];rfl
 have HT:=aB hT
 clear hb hO hT
 go_enter Tryz.func97,Tryz.ntmps97
 go_wp2
 go_ret
 rw [aS]
 exact ⟨p,rfl,World.grownBy.refl _ _,aA HT⟩
theorem U0 {s:ByteArray} {v:Bool} {l:List PT} {i j:Nat} {vw df:List UInt8} {a:Nat}:iC s v (.fixed l i j vw df a):=by
 intro w Y g hL hO hY
 obtain ⟨hv1,hv2⟩:=hO.self
 rw [LR] at hL
 obtain ⟨wE,p,hb,hT⟩:=hL
 have c0:w.cell? ⟨g,0,none⟩=some (.int .i64 1):=by rw [aC hb 0];rfl
 have c3:w.cell? ⟨g,3,none⟩=some (.pointer (some ⟨p,0,none⟩)):=by rw [aC hb 3];rfl
 have c5:w.cell? ⟨g,5,none⟩=some (.string (aE vw)):=by rw [aC hb 5];rfl
 have HT:=aB hT
 have HX:=aB (aE6 (w:=w) (Y:=Y) hv1 hv2 hY)
 clear hb hO hT hv1
 cases v with
 | false=>
  have XB:rR false=0:=rfl
  rw [XB]
  go_enter Tryz.func97,Tryz.ntmps97
  go_wp2_with fail
  go_ret
  rw [aS]
  exact ⟨p,rfl,World.grownBy.refl _ _,aA HT⟩
 | true=>
  have XB:rR true=1:=rfl
  rw [XB]
  go_enter Tryz.func97,Tryz.ntmps97
  go_wp2_with fail
  refine (aA HX).mono ?_
  rintro e w2 hJ
  obtain ⟨g2,rfl⟩:=hJ.ret
  have HJ:=aB hJ
  clear hJ HX
  go_wp2
  go_ret
  rw [aS]
  exact aA HJ
mutual
theorem lP {s:ByteArray} {v:Bool}:∀ t:LT,iC s v t
 | .same _ _ _=>AX
 | .fixed _ _ _ _ _ _=>U0
 | .swap at_ a b=>oF (.inl rfl) (by rw [if_neg (by simp [aZ]),aS,cL]) (fun u hu=>by
  simp [parts] at hu
  rcases hu with h | h
  ·rw [h];exact lP a
  ·rw [h];exact lP b)
 | .group a=>oF (.inr (.inl rfl)) (by rw [if_neg (by simp [aZ]),aS];simp [cL,parts,aW,gM]) (fun u hu=>by
  simp [parts] at hu
  rw [hu];exact lP a)
 | .many at_ a=>AY (lP a)
 | .row l ps=>oF (.inr (.inr (.inl rfl))) (by rw [if_neg (by simp [aZ]),aS];rfl) (fun u hu=>U1 l u hu)
 | .choice l ps=>oF (.inr (.inr (.inr rfl))) (by rw [if_pos (by simp [aZ]),aS];rfl) (fun u hu=>U1 l u hu)
theorem U1 {s:ByteArray} {v:Bool}:∀ (l:List LT) (u:LT),u∈l->iC s v u
 | [],u,h=>absurd h (List.not_mem_nil)
 | t::l,u,h=>by
  rcases List.mem_cons.1 h with h | h
  ·rw [h];exact lP t
  ·exact U1 l u h
end
theorem nU.grown {w w':World} (h:nU w) (hg:w.grownBy w' none):nU w':=fun j hj=>by
 rw [World.cell?_of_block (a:=⟨1,j,none⟩) (hg.block _ h.lt (by simp))]
 exact h j hj
def WF (W:World) (t:PT) (e:Ending) (w':World):Prop:=
 ∃ (u:List UInt8) (f:Bool),e = .returned (.tuple #[.string (aE u),.bool f])/\(f=true->((M t []/\u=[])\/(¬ M t []/\iT t (.rep 42 t) u))/\u.length<=100000000)/\(f=false->u=[]/\¬ M t []/\∀ s,¬ iT t (.rep 42 t) s)/\W.grownBy w' none
theorem aBW {W:World} {Y:Nat->Prop} {t:PT} {p:Nat} (hT:TR W Y t p) (ok:aX t) (hs:aP t+1<=1000) (cW:nU W) (hY:∀ k,Y k->k<W.heap.size):
  Calls Tryz.prog 136 #[.pointer (some ⟨p,0,none⟩)] W fun e w'=>WF W t e w':=by
 have HH:=aB (vM W Y t p ⟨#[]⟩ hT ok (by omega) (by decide))
 have HA:=aB (And.intro hT (And.intro ok cW))
 clear hT ok cW
 go_enter Tryz.func136,Tryz.ntmps136
 go_wp2_with fail
 refine (aA HH).mono ?_
 rintro e w1 ⟨x,rfl,hx,hg1⟩
 have hx':x=true↔M t []:=hx
 have Hx:=aB (And.intro hx' hg1)
 clear hx hx' hg1 HH
 cases x with
 | true=>
  go_wp2_with fail
  go_ret2
  exact ⟨[],true,rfl,fun _=>⟨.inl ⟨(aA Hx).1.1 (by first | rfl | trivial),rfl⟩,by simp⟩,fun h=>(by cases h),(aA Hx).2⟩
 | false=>
  obtain ⟨hT,ok,cW⟩:=aA HA
  have hg1:=(aA Hx).2
  have vR:TR w1 Y t p:=TR.kept (fun k hk _=>hg1.block k hk (by simp)) hT
  have yA:∀ k,Y k->k<w1.heap.size:=fun k hk=>by have:=hY k hk;have:=hg1.size;omega
  have HM:=aB (aBB vR yA)
  have H1:=aB (And.intro vR (And.intro (cW.grown hg1) yA))
  clear hT ok cW hg1 vR yA
  go_wp2_with fail
  refine (aA HM).mono ?_
  rintro e w2 ⟨g2,rfl,hg2,D9⟩
  obtain ⟨hT,ok,cW⟩:=aA HA
  obtain ⟨vR,aBI,yA⟩:=aA H1
  have HP:=aB (RV (ta:=t) (tb := .rep 42 t) (TR.kept (fun k hk _=>hg2.block k hk (by simp)) vR) D9 ok (by rw [aX];exact ⟨.inl rfl,ok⟩) (by omega) (by rw [aP];omega) (aBI.grown hg2))
  have H2:=aB hg2
  clear hT ok cW vR aBI yA hg2 D9 HM
  go_wp2_with fail
  refine (aA HP).mono ?_
  rintro e w3 ⟨u,f,rfl,h1,h2,hg3⟩
  have H3:=aB (And.intro h1 (And.intro h2 hg3))
  clear h1 h2 hg3 HP
  go_wp2
  go_ret2
  obtain ⟨h1,h2,hg3⟩:=aA H3
  have hne:¬ M t []:=fun hm=>by have h9:=(aA Hx).1.2 hm;first | cases h9 | simp at h9
  exact ⟨u,f,rfl,fun hf=>⟨.inr ⟨hne,(h1 hf).1⟩,(h1 hf).2⟩,fun hf=>⟨(h2 hf).1,hne,(h2 hf).2⟩,((aA Hx).2.trans (aA H2)).trans hg3⟩
theorem BW {w:World} {e:TypeId} {g n m cap:Nat} {xs:List Value} (h:w.ownsRow 0 e 1 (.slice (some ⟨g,0,none⟩) n cap) n xs) (hm:m<=n):w.ownsRow 0 e 1 (.slice (some ⟨g,0,none⟩) m cap) m (xs.take m):=by
 have hx:=h.1
 refine ⟨by simp;omega,?_⟩
 rcases h.2 with ⟨h',_⟩ | ⟨g',cap',cur,h',h1,h2,h3,h4,h5,h6⟩
 ·simp at h'
 ·simp only [Value.slice.injEq,Option.some.injEq,Addr.mk.injEq,and_true,true_and] at h'
  obtain ⟨rfl,rfl⟩:=h'
  refine .inr ⟨g,cap,cur,rfl,h1,h2,by omega,h4,h5,?_⟩
  rw [← h6,List.take_take]
  congr 1
  omega
theorem dN.take {w:World} {Y:Nat->Prop}:∀ {l:List PT} {gs:List Nat},dN w Y l gs->∀ m,dN w Y (l.take m) (gs.take m)
 | [],[],_,m=>by simp [dN]
 | t::l,g::gs,h,0=>by simp [dN]
 | t::l,g::gs,h,m+1=>by rw [dN] at h;rw [List.take_succ_cons,List.take_succ_cons,dN];exact ⟨h.1,dN.take h.2 m⟩
 | [],k::ks,h,_=>by simp [dN] at h
 | t::l,[],h,_=>by simp [dN] at h
def oB (g n:Nat):Value := .agg #[.pointer (some ⟨g,0,none⟩),.int .i64 (n:Int)]
def JT (w:World) (Y:Nat->Prop) (v:Bool) (t:LT) (n:Nat) (e:Ending) (w':World):Prop:=
 ∃ (vb cp:Nat) (gs:List Nat) (gb:Nat) (tb:PT),e = .returned (.tuple #[.slice (some ⟨vb,0,none⟩) (n+1) cp,.pointer (some ⟨gb,0,none⟩)])/\gs.length=n+1/\w'.ownsRow 0 116 1 (.slice (some ⟨vb,0,none⟩) (n+1) cp) (n+1) (bD gs)/\
  dN w' Y ((cL v t).take (n+1)) gs/\(cL v t)[n+1]? = some tb/\TR w' Y tb gb/\w.grownBy w' none
theorem KX {s:ByteArray} {v:Bool} {t:LT} {w:World} {Y:Nat->Prop} {g n:Nat} (hL:LR s w Y t g) (hO:J3 t) (hY:∀ k,Y k->k<w.heap.size) (hn:n+1<(parts t).length):
  Calls Tryz.prog 133 #[oB g n,.int .i64 (rR v)] w fun e w'=>JT w Y v t n e w':=by
 have HP:=aB (U2 (v:=v) (fun u _=>lP u) (LR.kept (w':=w.alloc (.cells #[.pointer (some ⟨g,0,none⟩),.int .i64 (n:Int)] 109)) (fun k hk _=>Below.heap_alloc w _ k hk) hL) hO (fun k hk=>by have:=hY k hk;simp;omega))
 have hpl:=hO.len
 have fU:=tK v t
 clear hL hO
 unfold oB
 go_enter Tryz.func133,Tryz.ntmps133
 go_wp2_with fail
 refine (aA HP).mono ?_
 rintro e w1 ⟨v1,gs,rfl,hR⟩
 have hlen:=hR.trl.len
 obtain ⟨vb,cp,rfl,_,dB⟩:=hR.own.form (by omega)
 obtain ⟨gb,hgb⟩:∃ gb,gs[n+1]? = some gb:=⟨_,List.getElem?_eq_getElem (by omega)⟩
 obtain ⟨tb,CI⟩:∃ tb,(cL v t)[n+1]? = some tb:=⟨_,List.getElem?_eq_getElem (by omega)⟩
 have ck:w1.cell? ⟨vb,n+1,none⟩=some (.pointer (some ⟨gb,0,none⟩)):=by
  rw [hR.own.cellAt (n+1) (by omega)]
  simp [bD,hgb]
 have hd:(n:Int)+1<(gs.length:Int):=by omega
 have cj:w1.cell? ⟨w.heap.size,1,none⟩=some (.int .i64 (n:Int)):=hR.gr.cell (by rw [aC (heap_alloc_new w _) 1];rfl) (by simp)
 have CT:gs.length<=cp:=by
  rcases hR.own.2 with ⟨h',_⟩ | ⟨g',cap',cur,h',_,_,hnc,_⟩
  ·simp at h'
  ·injection h' with _ _ hc
   omega
 have nY:cp<=9223372036854775807:=by
  rcases hR.own.2 with ⟨h',_⟩ | ⟨g',cap',cur,h',_,_,hnc,hcm,_⟩
  ·simp at h'
  ·injection h' with _ _ hc
   unfold maxLen at hcm
   omega
 have hnw:IntKind.i64.wrap ((n:Int)+1)=(n:Int)+1:=IntWalk.i64_in _ (by omega)
 have HR:=aB (And.intro hR (And.intro hgb CI))
 have Hl:=aB (And.intro hlen fU)
 clear hR hgb CI HP hlen fU
 go_wp2_with fail
 go_quiet (fail)
 go_wp2
 go_ret2
 obtain ⟨hR,hgb,CI⟩:=aA HR
 obtain ⟨hlen,fU⟩:=aA Hl
 refine ⟨vb,cp,gs.take (n+1),gb,tb,rfl,by simp;omega,?_,dN.kept (w:=w1) (w':=w1.drewN nq) (fun _ _ _=>rfl) (dN.take hR.trY (n+1)),CI,?_,((World.grownBy_alloc w _ none).trans hR.gr).trans (aN _ _ _)⟩
 ·have:=BW hR.own (m:=n+1) (by omega)
  rw [show (bD gs).take (n+1)=bD (gs.take (n+1)) by simp [bD,List.map_take]] at this
  exact aI this (fun _ _=>rfl)
 ·obtain ⟨t',g',q1,q2,q3⟩:=dN.at hR.trY (n+1) (by omega)
  rw [CI] at q1
  rw [hgb] at q2
  injection q1 with q1
  injection q2 with q2
  subst q1 q2
  exact TR.kept (w:=w1) (w':=w1.drewN nq) (fun _ _ _=>rfl) q3
def MM (v:Bool) (t:LT) (n:Nat):PT:=gM ((cL v t).take (n+1))
def yF (v:Bool) (t:LT) (n:Nat):PT:=((cL v t)[n+1]?).getD (.seq [])
theorem aC4 {s:ByteArray} {v:Bool} {t:LT} {w:World} {Y:Nat->Prop} {g n:Nat} (hL:LR s w Y t g) (hO:J3 t) (hY:∀ k,Y k->k<w.heap.size) (hn:n+1<(parts t).length) (hk:aZ t≠4) (cW:nU w)
  (oka:aX (MM v t n)) (okb:aX (yF v t n)) (PJ:aP (MM v t n)<=1000) (pK:aP (yF v t n)<=1000):
  Calls Tryz.prog 92 #[oB g n,.int .i64 (rR v)] w fun e w'=>WJ w (MM v t n) (yF v t n) e w':=by
 obtain ⟨wE,pv,jv,pat,wr0,vw,df,a,gs0,hb,_,_,_⟩:=gX hL
 have eC:=aD hb
 have c0:∀ o,(w.alloc o).cell? ⟨g,0,none⟩=some (.int .i64 (aZ t)):=fun o=>by rw [World.cell?_alloc_past _ _ _ eC,aC hb 0];rfl
 have HA:=aB (KX (v:=v) (LR.kept (w':=w.alloc (.cells #[.pointer (some ⟨g,0,none⟩),.int .i64 (n:Int)] 109)) (fun k hk _=>Below.heap_alloc w _ k hk) hL) hO (fun k hk=>by have:=hY k hk;simp;omega) hn)
 have Ho:=aB (And.intro oka (And.intro okb cW))
 have hpl:=hO.len
 clear hL hO oka okb hb cW
 generalize aZ t=K at *
 unfold oB at *
 go_enter Tryz.func92,Tryz.ntmps92
 go_wp2_with fail
 refine (aA HA).mono ?_
 rintro e w1 ⟨vb,cp,gs,gb,tb,rfl,rA,hown,oO,CI,X4,hg1⟩
 have hg:=(World.grownBy_alloc w (.cells #[.pointer (some ⟨g,0,none⟩),.int .i64 (n:Int)] 109) none).trans hg1
 have yA:∀ k,Y k->k<w1.heap.size:=fun k hk=>by have:=hY k hk;have:=hg.size;omega
 rw [← rA] at hown
 have HR:=aB (RN hown (fun e=>by rw [e] at rA;simp at rA) (by omega) oO yA)
 rw [rA] at HR
 have H1:=aB (And.intro X4 (And.intro CI (And.intro hg yA)))
 clear hown oO X4 CI hg hg1 yA HA rA
 go_wp2_with fail
 refine (aA HR).mono ?_
 rintro e w2 ⟨g2,rfl,hg2,D9⟩
 obtain ⟨X4,CI,hg,yA⟩:=aA H1
 obtain ⟨oka,okb,cW⟩:=aA Ho
 have hbq:yF v t n=tb:=by unfold yF;rw [CI];rfl
 have HP:=aB (RV (ta:=MM v t n) (tb:=yF v t n) D9 (by rw [hbq];exact TR.kept (fun k hk _=>hg2.block k hk (by simp)) X4) oka okb PJ pK ((cW.grown hg).grown hg2))
 have H2:=aB (hg.trans hg2)
 clear X4 CI hg yA oka okb cW hbq hg2 D9 HR
 go_wp2_with fail
 refine (aA HP).mono ?_
 rintro e w3 ⟨u,f,rfl,h1,h2,hg3⟩
 have H3:=aB (And.intro h1 (And.intro h2 hg3))
 clear h1 h2 hg3 HP
 go_wp2
 go_ret2
 exact ⟨u,f,rfl,(aA H3).1,(aA H3).2.1,(aA H2).trans (aA H3).2.2⟩
theorem CH {s:ByteArray} {v:Bool} {at_:Nat} {u:LT} {w:World} {Y:Nat->Prop} {g n:Nat} (hL:LR s w Y (.many at_ u) g) (hO:J3 (.many at_ u)) (hY:∀ k,Y k->k<w.heap.size) (cW:nU w)
  (ok:aX (aS v u)) (hs:aP (aS v u)+1<=1000):
  Calls Tryz.prog 92 #[oB g n,.int .i64 (rR v)] w fun e w'=>WF w (aS v u) e w':=by
 have PZ:J3 u:=hO.part (by simp [parts])
 rw [LR] at hL
 obtain ⟨wE,pv,jv,ga,hb,hw,_,UK⟩:=hL
 obtain ⟨vb,cap,rfl,_,dB⟩:=hw.1.form (by simp)
 have eC:=aD hb
 have c0:∀ o,(w.alloc o).cell? ⟨g,0,none⟩=some (.int .i64 4):=fun o=>by rw [World.cell?_alloc_past _ _ _ eC,aC hb 0];rfl
 have c1:∀ o,(w.alloc o).cell? ⟨g,1,none⟩=some (.slice (some ⟨vb,0,none⟩) 1 cap):=fun o=>by rw [World.cell?_alloc_past _ _ _ eC,aC hb 1];rfl
 have ck:∀ o,(w.alloc o).cell? ⟨vb,0,none⟩=some (.pointer (some ⟨ga,0,none⟩)):=fun o=>by
  rw [World.cell?_alloc_past _ _ _ dB,hw.1.cellAt 0 (by simp)]
  rfl
 have HT:=aB (lP (s:=s) (v:=v) u (w.alloc (.cells #[.pointer (some ⟨g,0,none⟩),.int .i64 (n:Int)] 109)) Y ga (LR.kept (fun k hk _=>Below.heap_alloc w _ k hk) UK) PZ (fun k hk=>by have:=hY k hk;simp;omega))
 have Ho:=aB (And.intro ok cW)
 clear hb hw UK hO PZ ok cW
 unfold oB
 go_enter Tryz.func92,Tryz.ntmps92
 go_wp2_with fail
 refine (aA HT).mono ?_
 rintro e w1 ⟨g1,rfl,hg1,vR⟩
 have hg:=(World.grownBy_alloc w (.cells #[.pointer (some ⟨g,0,none⟩),.int .i64 (n:Int)] 109) none).trans hg1
 have HR:=aB (aBW vR (aA Ho).1 hs ((aA Ho).2.grown hg) (fun k hk=>by have:=hY k hk;have:=hg.size;omega))
 have H1:=aB hg
 clear hg hg1 vR HT
 go_wp2_with fail
 refine (aA HR).mono ?_
 rintro e w2 ⟨u2,f,rfl,h1,h2,hg2⟩
 have H2:=aB (And.intro h1 (And.intro h2 hg2))
 clear h1 h2 hg2 HR
 go_wp2
 go_ret2
 exact ⟨u2,f,rfl,(aA H2).1,(aA H2).2.1,(aA H1).trans (aA H2).2.2⟩
def YU (t:LT) (n:Nat):PT:=rF ((cL false t).take (n+1))
theorem aA1 {s:ByteArray} {t:LT} {w:World} {Y:Nat->Prop} {g n:Nat} (hL:LR s w Y t g) (hO:J3 t) (hY:∀ k,Y k->k<w.heap.size) (hn:n+1<(parts t).length) (cW:nU w)
  (oka:aX (YU t n)) (okb:aX (yF false t n)) (PJ:aP (YU t n)<=1000) (pK:aP (yF false t n)<=1000):
  Calls Tryz.prog 91 #[oB g n] w fun e w'=>VX w (YU t n) (yF false t n) e w':=by
 have HA:=aB (KX (v:=false) (LR.kept (w':=w.alloc (.cells #[.pointer (some ⟨g,0,none⟩),.int .i64 (n:Int)] 109)) (fun k hk _=>Below.heap_alloc w _ k hk) hL) hO (fun k hk=>by have:=hY k hk;simp;omega) hn)
 have XB:rR false=0:=rfl
 rw [XB] at HA
 have Ho:=aB (And.intro oka (And.intro okb cW))
 have hpl:=hO.len
 clear hL hO oka okb cW XB
 unfold oB at *
 go_enter Tryz.func91,Tryz.ntmps91
 go_wp2_with fail
 refine (aA HA).mono ?_
 rintro e w1 ⟨vb,cp,gs,gb,tb,rfl,rA,hown,oO,CI,X4,hg1⟩
 have hg:=(World.grownBy_alloc w (.cells #[.pointer (some ⟨g,0,none⟩),.int .i64 (n:Int)] 109) none).trans hg1
 have yA:∀ k,Y k->k<w1.heap.size:=fun k hk=>by have:=hY k hk;have:=hg.size;omega
 rw [← rA] at hown
 have HR:=aB (U6 hown (fun e=>by rw [e] at rA;simp at rA) (by omega) oO yA)
 rw [rA] at HR
 have H1:=aB (And.intro X4 (And.intro CI (And.intro hg yA)))
 clear hown oO X4 CI hg hg1 yA HA rA
 go_wp2_with fail
 refine (aA HR).mono ?_
 rintro e w2 ⟨g2,rfl,hg2,D9⟩
 obtain ⟨X4,CI,hg,yA⟩:=aA H1
 obtain ⟨oka,okb,cW⟩:=aA Ho
 have hbq:yF false t n=tb:=by unfold yF;rw [CI];rfl
 have HP:=aB (YQ (tp:=YU t n) (tq:=yF false t n) D9 (by rw [hbq];exact TR.kept (fun k hk _=>hg2.block k hk (by simp)) X4) oka okb PJ pK ((cW.grown hg).grown hg2))
 have H2:=aB (hg.trans hg2)
 clear X4 CI hg yA oka okb cW hbq hg2 D9 HR
 go_wp2_with fail
 refine (aA HP).mono ?_
 rintro e w3 ⟨u,f,rfl,h1,h2,hg3⟩
 have H3:=aB (And.intro h1 (And.intro h2 hg3))
 clear h1 h2 hg3 HP
 go_wp2
 go_ret2
 exact ⟨u,f,rfl,(aA H3).1,(aA H3).2.1,(aA H2).trans (aA H3).2.2⟩
theorem QR (a b:ByteArray) (w:World):Calls Tryz.prog 93 #[.string a,.string b] w fun e w'=>(e = .returned (.string a)\/e = .returned (.string b))/\w'=w:=by
 by_cases h:b.size<a.size
 ·have hd:(b.size:Int)<(a.size:Int):=by omega
  go_enter Tryz.func93,Tryz.ntmps93
  go_wp2
  go_ret
  exact ⟨.inr rfl,rfl⟩
 ·have hd:¬ ((b.size:Int)<(a.size:Int)):=by omega
  go_enter Tryz.func93,Tryz.ntmps93
  go_wp2
  go_ret
  exact ⟨.inl rfl,rfl⟩
def JW1 (v:Bool) (t:LT) (n:Nat) (u:List UInt8):Prop:=match t with
 | .many _ a=>(M (aS v a) []/\u=[])\/(¬ M (aS v a) []/\iT (aS v a) (.rep 42 (aS v a)) u)
 | t=>iT (MM v t n) (yF v t n) u
def pA (t:LT) (n:Nat) (u:List UInt8):Prop:=match t with
 | .choice _ _=>M (YU t n) u/\M (yF false t n) u
 | t=>JW1 false t n u\/JW1 true t n u
def WO (W:World) (P:List UInt8->Prop) (e:Ending) (w':World):Prop:=
 ∃ (u:List UInt8) (f:Bool),e = .returned (.tuple #[.string (aE u),.bool f])/\(f=true->P u/\u.length<=100000000)/\(f=false->u=[]/\∀ s,¬ P s)/\W.grownBy w' none
structure JOk (t:LT) (n:Nat):Prop where
 nb:match t with | .many _ _=>n=0 | t=>n+1<(parts t).length
 ok:∀ v,match t with | .many _ a=>aX (aS v a)/\aP (aS v a)+1<=1000 | t=>aX (MM v t n)/\aX (yF v t n)/\aP (MM v t n)<=1000/\aP (yF v t n)<=1000
 sh:aX (YU t n)/\aP (YU t n)<=1000
theorem C1 {s:ByteArray} {v:Bool} {t:LT} {w:World} {Y:Nat->Prop} {g n:Nat} (hL:LR s w Y t g) (hO:J3 t) (hY:∀ k,Y k->k<w.heap.size) (cW:nU w) (hJ:JOk t n):
  Calls Tryz.prog 92 #[oB g n,.int .i64 (rR v)] w fun e w'=>WO w (JW1 v t n) e w':=by
 by_cases hm:aZ t=4
 ·cases t with
  | many at_ a=>
   have h1:=hJ.ok v
   refine (CH hL hO hY cW h1.1 h1.2).mono ?_
   rintro e w' ⟨u,f,rfl,h2,h3,h4⟩
   refine ⟨u,f,rfl,h2,fun hf=>⟨(h3 hf).1,fun s hs=>?_⟩,h4⟩
   rcases hs with ⟨hs,_⟩ | ⟨_,hs⟩
   ·exact (h3 hf).2.1 hs
   ·exact (h3 hf).2.2 s hs
  | _=>simp [aZ] at hm
 ·have h1:n+1<(parts t).length/\aX (MM v t n)/\aX (yF v t n)/\aP (MM v t n)<=1000/\aP (yF v t n)<=1000/\JW1 v t n=iT (MM v t n) (yF v t n):=by
   have h2:=hJ.ok v
   have h3:=hJ.nb
   cases t <;> first | exact ⟨h3,h2.1,h2.2.1,h2.2.2.1,h2.2.2.2,rfl⟩ | exact absurd rfl hm
  obtain ⟨q1,q2,q3,q4,q5,q6⟩:=h1
  rw [q6]
  refine (aC4 hL hO hY q1 hm cW q2 q3 q4 q5).mono ?_
  rintro e w' ⟨u,f,rfl,h2,h3,h4⟩
  exact ⟨u,f,rfl,h2,h3,h4⟩
end Go.Proofs.YtlljggefbngkeaaGreatDoor
