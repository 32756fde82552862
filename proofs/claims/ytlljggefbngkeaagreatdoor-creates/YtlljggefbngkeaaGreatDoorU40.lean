import Derived.Test.YtlljggefbngkeaaGreatDoorU39
import Derived.Test.YtlljggefbngkeaaGreatDoorU24
import Derived.Test.YtlljggefbngkeaaGreatDoorU17
set_option maxRecDepth 100000
set_option maxHeartbeats 6400000
namespace Go.Proofs.YtlljggefbngkeaaGreatDoor
open Go.RowKit Go.Shelf
attribute [local go_sem] Oper.semAt_some
theorem ZK (n ba bb:Nat) (u:ByteArray) (w:World):CallsIn Fence.wide n Tryz.prog 142 #[.pointer (some ⟨ba,0,none⟩),.pointer (some ⟨bb,0,none⟩),.string u] w fun e w' =>
  e = .returned (.func (.func 160) #[] #[.pointer (some ⟨w.heap.size,0,none⟩),.pointer (some ⟨w.heap.size+2,0,none⟩),.pointer (some ⟨w.heap.size+1,0,none⟩)])/\w'=((w.alloc (.cells #[.pointer (some ⟨ba,0,none⟩)] 120)).alloc (.cells #[.pointer (some ⟨bb,0,none⟩)] 120)).alloc (.cells #[.string u] 9):=by
 refine callsIn_of_wp Tryz.func142 rfl trivial ?_ rfl
 simp only [Tryz.ntmps142,List.size_toArray,List.length_cons,List.length_nil,Nat.reduceAdd,Nat.reduceSub,Array.replicate_succ,Array.replicate_zero,List.push_toArray,List.append_toArray,List.nil_append,List.cons_append]
 gi_wp2
 go_ret
 exact ⟨rfl,rfl⟩
theorem ET (W:World) (o1 o2 o3:Obj):∃ w5,((W.alloc o1).alloc o2).alloc o3=w5/\w5.heap.size=W.heap.size+3/\w5.heap[W.heap.size]? = some o1/\w5.heap[W.heap.size+1]? = some o2/\w5.heap[W.heap.size+2]? = some o3/\W.grownBy w5 none:=by
 refine ⟨_,rfl,by simp,heap_alloc_old _ (heap_alloc_old _ (heap_alloc_new W _)),heap_alloc_old _ (bC W _ _),?_,((World.grownBy_alloc W _ none).trans (World.grownBy_alloc _ _ none)).trans (World.grownBy_alloc _ _ none)⟩
 have:=bC (W.alloc o1) o2 o3
 simpa using this
theorem MK (v:List UInt8) (i:Nat):(aE v).extract 0 i=aE (v.take i):=by
 have e:(aE v).data.toList=v:=by simp [aE]
 have:=jI (aE v) 0 i
 rw [e,iM] at this
 exact this.symm
structure PtI (w:World) (m:Int) (ba bb:Nat) (u:List UInt8) (pre:List Nat) (D:World):Prop where
 none_:pre=[]
 bel:K0 w D
 b0:D.heap[w.heap.size]? = some (.cells #[.int .i64 m,.pointer (some ⟨ba,0,none⟩),.pointer (some ⟨bb,0,none⟩)] 128 (0,0))
 b1:D.heap[w.heap.size+1]? = some (.cells #[.string (aE u)] 9 (0,0))
 b2:D.heap[w.heap.size+2]? = some (.cells #[.string ⟨#[]⟩] 9 (0,0))
 b3:D.heap[w.heap.size+3]? = some (.cells #[.string ⟨#[]⟩] 9 (0,0))
 sz:w.heap.size+7<=D.heap.size
structure PtX (w:World) (A B:PT) (u:List UInt8) (pre:List Nat) (D:World):Prop where
 ex:∃ x,POk A B u [] x/\D.heap[w.heap.size+2]? = some (.cells #[.string (aE (u.take x))] 9 (0,0))/\D.heap[w.heap.size+3]? = some (.cells #[.string (aE (u.drop x))] 9 (0,0))
 bel:K0 w D
def kE (A B:PT) (u:List UInt8):Prop:=∃ i,i<=u.length/\M A (u.take i)/\M B (u.drop i)
def aB5 (w:World) (A B:PT) (u:List UInt8) (m:Int) (e:Ending) (w':World):Prop:=
 ((kE A B u/\e = .returned (.tuple #[.string (aE (u.take (aH A B u))),.string (aE (u.drop (aH A B u)))]))\/(¬ kE A B u/\e = .panicked (kL m)))/\K0 w w'
theorem gD {w:World} {A B:PT} {ba bb:Nat} {m:Int} {u:List UInt8} (hA:bF w A ba) (hB:bF w B bb) (fF:u.length<=1000):
  Calls Tryz.prog 103 #[.agg #[.int .i64 m,.pointer (some ⟨ba,0,none⟩),.pointer (some ⟨bb,0,none⟩)],.string (aE u)] w fun e w'=>aB5 w A B u m e w':=by
 refine (callsIn_wide (n:=3)).1 ?_
 refine callsIn_of_wp_marks Tryz.func103 rfl trivial ?_ rfl
 simp only [Tryz.ntmps103,List.size_toArray,List.length_cons,List.length_nil,Nat.reduceAdd,Nat.reduceSub,Array.replicate_succ,Array.replicate_zero,List.push_toArray,List.append_toArray,List.nil_append,List.cons_append]
 gi_wp2_with fail
 refine ⟨trivial,(ZK 2 ba bb (aE u) _).mono ?_⟩
 rintro e w' ⟨rfl,rfl⟩
 gi_wp2_with fail
 obtain ⟨w4,hw4,hs4,p0,p1,p2,p3,hg4⟩:=oQ w (.cells #[.int .i64 m,.pointer (some ⟨ba,0,none⟩),.pointer (some ⟨bb,0,none⟩)] 128) (.cells #[.string (aE u)] 9) (.cells #[.string ⟨#[]⟩] 9) (.cells #[.string ⟨#[]⟩] 9)
 rw [hw4]
 obtain ⟨w7,hw7,hs7,q0,q1,q2,EK⟩:=ET w4 (.cells #[.pointer (some ⟨ba,0,none⟩)] 120) (.cells #[.pointer (some ⟨bb,0,none⟩)] 120) (.cells #[.string (aE u)] 9)
 rw [hw7]
 simp only [Nat.add_assoc,Nat.reduceAdd]
 rw [hs4] at q0 q1 q2 hs7
 simp only [Nat.add_assoc,Nat.reduceAdd] at q0 q1 q2 hs7
 have hk4:K0 w w4:=K0.of_grownz hg4
 have PO:K0 w4 w7:=K0.of_grownz EK
 have XW:PtI w m ba bb u [] w7:={
  none_:=rfl
  bel:=hk4.trans PO
  b0:=(PO.heap (aD p0)).trans p0
  b1:=(PO.heap (aD p1)).trans p1
  b2:=(PO.heap (aD p2)).trans p2
  b3:=(PO.heap (aD p3)).trans p3
  sz:=by omega}
 clear hw4 hw7 p0 p1 p2 p3 hg4 EK
 refine AO (α:=Nat) rfl (by decide) (gf:=160) (lb := #[.pointer (some ⟨w.heap.size+4,0,none⟩),.pointer (some ⟨w.heap.size+6,0,none⟩),.pointer (some ⟨w.heap.size+5,0,none⟩)]) rfl trivial (enters_of Tryz.func160 (by kernel_rfl) rfl) (fun _ _ _=>Iff.rfl)
  (FP (Fc:=fun k=>k=w.heap.size+2\/k=w.heap.size+3) hA hB fF (hk4.trans PO) (fun k h=>by omega) (by omega) (by omega) q0 q2 q1) (fun _=>rfl)
  (PtI w m ba bb u) (PtX w A B u)
  (fun pre D D' h hz=>⟨{
   none_:=h.none_
   bel:=⟨hz.os.trans h.bel.os,hz.tape.trans h.bel.tape,hz.output.trans h.bel.output,Nat.le_trans h.bel.size hz.size,fun k hk _=>(hz.block k (Nat.lt_of_lt_of_le hk h.bel.size) (.inl (by omega))).trans (h.bel.heap hk)⟩
   b0:=(hz.block _ (aD h.b0) (.inl (by omega))).trans h.b0
   b1:=(hz.block _ (aD h.b1) (.inl (by omega))).trans h.b1
   b2:=(hz.block _ (aD h.b2) (.inl (by omega))).trans h.b2
   b3:=(hz.block _ (aD h.b3) (.inl (by omega))).trans h.b3
   sz:=Nat.le_trans h.sz hz.size},fun _=>Iff.rfl⟩)
  (fun pre D D' h hb hs ho ht hu=>by
   obtain ⟨x,hx,h2,h3⟩:=h.ex
   exact ⟨⟨x,hx,(hb _ (aD h2) (.inl (by omega))).trans h2,(hb _ (aD h3) (.inl (by omega))).trans h3⟩,⟨ho.trans h.bel.os,ht.trans h.bel.tape,hu.trans h.bel.output,by rw [hs];exact h.bel.size,fun k hk _=>(hb k (Nat.lt_of_lt_of_le hk h.bel.size) (.inl (by omega))).trans (h.bel.heap hk)⟩⟩)
  (fun pre D D' h hz=>by
   obtain ⟨x,hx,h2,h3⟩:=h.ex
   exact ⟨⟨x,hx,(hz.block _ (aD h2) (.inl (by omega))).trans h2,(hz.block _ (aD h3) (.inl (by omega))).trans h3⟩,⟨hz.os.trans h.bel.os,hz.tape.trans h.bel.tape,hz.output.trans h.bel.output,Nat.le_trans h.bel.size hz.size,fun k hk _=>(hz.block k (Nat.lt_of_lt_of_le hk h.bel.size) (.inl (by omega))).trans (h.bel.heap hk)⟩⟩)
  (fun pre D k h hk => .inl (by omega)) (fun _ pre D h k hk=>by have:=h.sz;omega)
  XW ?a1 ?assign ?body ?done ?stop
 case assign=>
  intro l' x D K hK
  simp only [I6]
  gi_wp2
  exact hK
 case body=>
  rintro l' pre x Wr hP LE OD
  obtain rfl:=hP.none_
  have ct:=aC hP.b1 0
  have c2:=aC hP.b2 0
  have c3:=aC hP.b3 0
  have f2:=aM hP.b2 0
  have f3:=aM hP.b3 0
  simp at ct c2 c3
  have hsu:(aE u).size=u.length:=aO u
  have hxi:(x:Int)<=(u.length:Int):=by have:=LE.1;omega
  have WZ:(aE u).extract x u.length=aE (u.drop x):=N7 u x
  have AK:(aE u).extract 0 x=aE (u.take x):=MK u x
  have HP:=aB (And.intro hP LE)
  clear hP LE hA hB XW
  gi_wp2_with fail
  refine wpIn_mono (Q:=fun e _ w'=>e = .normal/\w'=((Wr.setCell ⟨w.heap.size+2,0,none⟩ (.string (aE (u.take x)))).setCell ⟨w.heap.size+3,0,none⟩ (.string (aE (u.drop x)))).drew) ?_ ?_
  ·gi_region_with fail
   all_goals exact ⟨rfl,rfl⟩
  ·rintro e a' w' ⟨rfl,rfl⟩
   gi_wp2_with fail
   obtain ⟨hP,LE⟩:=aA HP
   have g2:=aK hP.b2 0 (.string (aE (u.take x)))
   simp at g2
   have g2':=(Below.heap_setCell (Wr.setCell ⟨w.heap.size+2,0,none⟩ (.string (aE (u.take x)))) ⟨w.heap.size+3,0,none⟩ (.string (aE (u.drop x))) (w.heap.size+2) (by simp)).trans g2
   have g3:=aK ((Below.heap_setCell Wr ⟨w.heap.size+2,0,none⟩ (.string (aE (u.take x))) (w.heap.size+3) (by simp)).trans hP.b3) 0 (.string (aE (u.drop x)))
   simp at g3
   have far:∀ k,k≠w.heap.size+2->k≠w.heap.size+3->((Wr.setCell ⟨w.heap.size+2,0,none⟩ (.string (aE (u.take x)))).setCell ⟨w.heap.size+3,0,none⟩ (.string (aE (u.drop x)))).heap[k]? = Wr.heap[k]? := fun k h1 h2=>(Below.heap_setCell _ _ _ _ h2).trans (Below.heap_setCell _ _ _ _ h1)
   have hsz:((Wr.setCell ⟨w.heap.size+2,0,none⟩ (.string (aE (u.take x)))).setCell ⟨w.heap.size+3,0,none⟩ (.string (aE (u.drop x)))).heap.size=Wr.heap.size:=by simp [World.setCell]
   refine ⟨⟨rfl,rfl,rfl,Nat.le_of_eq hsz.symm,fun k _ hn=>far k (fun h=>hn (.inl h)) (fun h=>hn (.inr h)),fun k h => .inl h⟩,⟨x,LE,g2',g3⟩,⟨hP.bel.os,hP.bel.tape,hP.bel.output,?_,fun k hk _=>(far k (by omega) (by omega)).trans (hP.bel.heap hk)⟩⟩
   show w.heap.size<=((Wr.setCell ⟨w.heap.size+2,0,none⟩ (.string (aE (u.take x)))).setCell ⟨w.heap.size+3,0,none⟩ (.string (aE (u.drop x)))).heap.size
   rw [hsz]
   exact hP.bel.size
 case done=>
  rintro D xs W9 hD tQ hP hK
  obtain rfl:=hP.none_
  have c0:=aC hP.b0 0
  simp at c0
  have HP:=aB (And.intro hP tQ)
  clear hP tQ hA hB XW
  gi_wp2_with fail
  refine ⟨by simp,.inl ⟨_,_,rfl,run_takeDeferred hK,?_⟩⟩
  obtain ⟨hP,tQ⟩:=aA HP
  have hkz:K0 w (W9.putObj D (.deferred none)):=by
   refine ⟨hP.bel.os,hP.bel.tape,hP.bel.output,?_,fun k hk _=>(World.putObj_heap_other (by omega)).trans (hP.bel.heap hk)⟩
   have:=hP.bel.size
   simpa [World.putObj] using this
  have hno:¬ kE A B u:=fun ⟨i,h1,h2,h3⟩=>by have:=(tQ i).2 ⟨h1,h2,h3⟩;cases this
  first
   | exact ⟨.inr ⟨hno,rfl⟩,hkz⟩
   | (simp [LeavesInM,settle];exact ⟨.inr ⟨hno,rfl⟩,hkz⟩)
 case stop=>
  rintro D pre W9 hD tQ hP hK
  have HP:=aB hP
  clear hP hA hB XW
  gi_wp2_with fail
  refine ⟨by simp,.inl ⟨_,_,rfl,run_takeDeferred hK,?_⟩⟩
  obtain ⟨⟨x,LE,h2,h3⟩,nN⟩:=aA HP
  have q2:=(World.putObj_heap_other (w:=W9) (r:=D) (o := .deferred none) (k:=w.heap.size+2) (by omega)).trans h2
  have q3:=(World.putObj_heap_other (w:=W9) (r:=D) (o := .deferred none) (k:=w.heap.size+3) (by omega)).trans h3
  have e2:=aC q2 0
  have e3:=aC q3 0
  simp at e2 e3
  have hkz:K0 w (W9.putObj D (.deferred none)):=by
   refine ⟨nN.os,nN.tape,nN.output,?_,fun k hk _=>(World.putObj_heap_other (by omega)).trans (nN.heap hk)⟩
   have:=nN.size
   simpa [World.putObj] using this
  have hcut:kE A B u:=⟨x,LE.1,LE.2.1,LE.2.2.1⟩
  have hxc:x=aH A B u:=by
   obtain ⟨_,d1,d2,d3,d4⟩:=bQ hcut
   rcases Nat.lt_trichotomy x (aH A B u) with h | h | h
   ·exact absurd ⟨LE.2.1,LE.2.2.1⟩ (d4 x h)
   ·exact h
   ·have:=(LE.2.2.2 (aH A B u)).2 ⟨h,d2,d3⟩
    cases this
  refine ⟨.tuple #[.string (aE (u.take x)),.string (aE (u.drop x))],?_,?_⟩
  ·simp [results,Tryz.f103,go_sem,e2,e3]
  ·rw [hxc]
   exact ⟨.inl ⟨hcut,rfl⟩,hkz⟩
end Go.Proofs.YtlljggefbngkeaaGreatDoor
namespace Go.Proofs.YtlljggefbngkeaaGreatDoor
open Go.RowKit Go.Shelf
def uB (m:Int) (ba bb:Nat):Value := .agg #[.int .i64 m,.pointer (some ⟨ba,0,none⟩),.pointer (some ⟨bb,0,none⟩)]
theorem nD {w:World} {A:PT} {ba bb:Nat} {m:Int} {u:List UInt8} (hA:bF w A ba) (hB:bF w (.rep 42 A) bb) (h0:¬ M A []) (hu:M (.rep 42 A) u) (fF:u.length<=1000):
  Calls Tryz.prog 112 #[uB m ba bb,.string (aE u)] w fun e w'=>JE w (dV A u) e w':=by
 obtain ⟨i1,lW,wD,nL,xX⟩:=info_parts Tryz.infoStr
 have HPt:=aB (fun (W:World) (hk:K0 w W) (v:List UInt8) (hv:v.length<=1000)=>gD (m:=m) (u:=v) (hA.k0 hk) (hB.k0 hk) hv)
 have HU:=aB (And.intro h0 hu)
 clear hA hB h0 hu
 unfold uB
 go_enter Tryz.func112,Tryz.ntmps112
 go_wp2_with fail
 obtain ⟨w1,dC,hs1,b0,aY⟩:∃ w1,w.alloc (.cells #[.int .i64 m,.pointer (some ⟨ba,0,none⟩),.pointer (some ⟨bb,0,none⟩)] 128 (0,0))=w1/\w1.heap.size=w.heap.size+1/\w1.heap[w.heap.size]? = some (.cells #[.int .i64 m,.pointer (some ⟨ba,0,none⟩),.pointer (some ⟨bb,0,none⟩)] 128 (0,0))/\K0 w w1:=⟨_,rfl,by simp,heap_alloc_new w _,Kp.alloc _ _ _⟩
 rw [dC]
 clear dC
 go_loopg [1,5] (u.length+2) (fun gk sv lv wv=>∃ (v:List UInt8) (l:List (List UInt8)),sv = .string (aE v)/\M (.rep 42 A) v/\v.length<=1000/\v.length<gk/\l.length+v.length<=1000/\dV A u=l++dV A v/\wv.ownsRow 0 9 1 lv l.length (cD l)/\(∀ j,lv.ownBlock=some j->w1.heap.size<=j)/\K0 w1 wv)
 case atStart=>exact ⟨u,[],rfl,(aA HU).2,fF,by omega,by simpa using fF,by simp,World.ownsRow_nil _ _ _ _,fun j e=>(by cases e),K0.refl _⟩
 case round=>
  obtain ⟨v,l,rfl,hv,dB,fW,hll,C9,hown,dY,hK⟩:=hrel
  obtain ⟨ao,cp,rfl⟩:=aG hown
  by_cases hv0:v=[]
  ·subst hv0
   have t0:((aE []).toList.isEmpty)=true:=t7
   have H7:=aB (And.intro C9 (And.intro hown (aY.trans hK)))
   clear hv C9 hown dY hK
   go_wp2
   go_ret
   obtain ⟨C9,hown,hK⟩:=aA H7
   rw [KM,List.append_nil] at C9
   rw [C9]
   exact ⟨_,rfl,hown,hK⟩
  ·have t0:((aE v).toList.isEmpty)=false:=wK v hv0
   have hb:=(hK.heap (aD b0)).trans b0
   have c0:=aC hb 0
   have c1:=aC hb 1
   have c2:=aC hb 2
   simp at c0 c1 c2
   have hcut:=mX hv0 hv
   have HP:=aB (aA HPt wr (aY.trans hK) v dB)
   have H7:=aB (And.intro hv (And.intro C9 (And.intro hown (And.intro dY (And.intro hK hcut)))))
   clear hv C9 hown dY hK hcut
   go_wp2_with fail
   refine (aA HP).mono ?_
   rintro e w2 ⟨(⟨_,rfl⟩ | ⟨hn,_⟩),hk2⟩
   ·obtain ⟨hv,C9,hown,dY,hK,hcut⟩:=aA H7
    have hown2:=aI hown (fun j e=>hk2.heap (aJ hown j e))
    have HO:=aB (And.intro hown2 hk2)
    clear hv C9 hown dY hK hcut hown2 hk2
    go_wp2_with (at_builtin;refine wpList_append_lies _ rfl (.tmp 16) (.tmp 18) 64 rfl 0 9 i1 _ 1 16 Tryz.underlying64 lW wD nL xX rfl (by decide) (.slice ao l.length cp) l.length (cD l) rfl ((aA HO).1.alloc _) ⟨w2.heap.size,0,none⟩ 1 1 [.string (aE (v.take (aH A (.rep 42 A) v)))] rfl rfl (World.news_of_block (cs := #[.string (aE (v.take (aH A (.rep 42 A) v)))]) (heap_alloc_new w2 _)) (by simp [Value.oneCell']) (by omega) (by unfold maxLen;omega) (by omega) (Nat.zero_le _) _ rfl ?_)
    intro g9 cap9 w9 CN kP UE aH3
    have HE:Hid (∃ (v':List UInt8) (l':List (List UInt8)),v'=v.drop (aH A (.rep 42 A) v)/\l'=l++[v.take (aH A (.rep 42 A) v)]/\M (.rep 42 A) v'/\v'.length<v.length/\dV A u=l'++dV A v'/\w9.ownsRow 0 9 1 (.slice (some ⟨g9,0,none⟩) (l.length+1) cap9) (l.length+1) (cD l')/\w1.heap.size<=g9/\K0 w1 w9):=by
     obtain ⟨hv,C9,hown,dY,hK,hcut⟩:=aA H7
     obtain ⟨hown2,hk2⟩:=aA HO
     obtain ⟨_,d2,d3,d4,d5⟩:=bQ hcut
     have d6:=pF (aA HU).1 hv0 hv
     have qH:=kP.size
     simp at qH
     have xN:=hK.trans hk2
     have hzr:=xN.size
     refine ⟨_,_,rfl,rfl,d4,by rw [List.length_drop];omega,?_,?_,?_,?_⟩
     ·rw [C9,BV (aA HU).1 hv0 hv,List.append_assoc];rfl
     ·have:cD (l++[v.take (aH A (.rep 42 A) v)])=cD l++[.string (aE (v.take (aH A (.rep 42 A) v)))]:=by simp [cD]
      rw [this]
      exact CN
     ·rcases UE with e | e
      ·exact dY g9 e
      ·omega
     ·refine ⟨kP.os.trans xN.os,kP.tape.trans xN.tape,kP.output.trans xN.output,by omega,fun j hj _=>?_⟩
      rw [kP.block j (by simp;omega) (fun e=>by have:=dY j e.symm;omega),Below.heap_alloc _ _ _ (by omega)]
      exact xN.heap hj
    clear CN kP UE HO
    go_wp2_with fail
    go_roundg (gk-1)
    case measure=>omega
    case rel=>
     obtain ⟨v',l',rfl,rfl,hv',aGP,aCA,xY,hf',dS⟩:=aA HE
     refine ⟨v.drop (aH A (.rep 42 A) v),l++[v.take (aH A (.rep 42 A) v)],rfl,hv',by omega,by omega,by rw [List.length_append,List.length_singleton];omega,aCA,?_,fun j e=>?_,dS⟩
     ·rw [List.length_append,List.length_singleton];exact xY
     ·simp [Value.ownBlock] at e
      omega
   ·exact absurd (aA H7).2.2.2.2.2 hn
theorem qC {w:World} {A:PT} {ba bb:Nat} {m:Int} {u:List UInt8} (hA:bF w A ba) (hB:bF w (.rep 42 A) bb) (hu:¬ M (.rep 42 A) u) (fF:u.length<=1000):
  Calls Tryz.prog 112 #[uB m ba bb,.string (aE u)] w fun e w'=>e = .panicked (kL m)/\K0 w w':=by
 have hu0:u≠[]:=fun e=>hu (by rw [e];exact M.star MS.nil)
 have t0:((aE u).toList.isEmpty)=false:=wK u hu0
 have hno:¬ kE A (.rep 42 A) u:=fun ⟨i,h1,h2,h3⟩=>hu (by
  have:=M.star (MS.cons h2 (M.star_iff.1 h3))
  rwa [List.take_append_drop] at this)
 have HPt:=aB (fun (W:World) (hk:K0 w W)=>gD (m:=m) (u:=u) (hA.k0 hk) (hB.k0 hk) fF)
 have HN:=aB hno
 clear hA hB hu hno
 unfold uB
 go_enter Tryz.func112,Tryz.ntmps112
 go_wp2_with fail
 have hb0:=heap_alloc_new w (.cells #[.int .i64 m,.pointer (some ⟨ba,0,none⟩),.pointer (some ⟨bb,0,none⟩)] 128)
 have eE:K0 w (w.alloc (.cells #[.int .i64 m,.pointer (some ⟨ba,0,none⟩),.pointer (some ⟨bb,0,none⟩)] 128)):=Kp.alloc _ _ _
 refine wp_loop_rounds 1 ?_
 rw [rounds_succ]
 go_wp2_with fail
 refine (aA HPt _ eE).mono ?_
 rintro e w2 ⟨(⟨hc,_⟩ | ⟨_,rfl⟩),hk2⟩
 ·exact absurd hc (aA HN)
 ·go_wp2
  exact ⟨rfl,rfl,eE.trans hk2⟩
structure qO (w:World) (sl:Value) (gs:List Nat) (ts:List PT):Prop where
 len:gs.length=ts.length
 few:gs.length<=1000
 own:w.ownsRow 0 120 1 sl gs.length (bD gs)
 at_:∀ (i:Nat) (g:Nat) (t:PT),gs[i]? = some g->ts[i]? = some t->bF w t g
theorem qO.k0 {w w':World} {sl:Value} {gs:List Nat} {ts:List PT} (h:qO w sl gs ts) (hk:K0 w w'):qO w' sl gs ts:=
 ⟨h.len,h.few,aI h.own (fun k e=>hk.heap (aJ h.own k e)),fun i g t h1 h2=>(h.at_ i g t h1 h2).k0 hk⟩
theorem D7 {w:World} {sl:Value} {gs:List Nat} {ts:List PT} {m:Int} {i:Nat} {t:PT} {u:List UInt8} (h:qO w sl gs ts) (hi:ts[i]? = some t) (hu:u.length<=1000):
  Calls Tryz.prog 119 #[.agg #[.int .i64 m,sl],.int .i64 (i:Int),.string (aE u)] w fun e w'=>(∃ x:Bool,e = .returned (.bool x)/\(x=true↔M t u))/\K0 w w':=by
 have hil:=(List.getElem?_eq_some_iff.1 hi).1
 have hig:i<gs.length:=by rw [h.len];exact hil
 have hgi:gs[i]? = some gs[i]:=List.getElem?_eq_getElem hig
 obtain ⟨vb,cap,rfl,_,dB⟩:=h.own.form (by omega)
 have hii:(i:Int)<(gs.length:Int):=by omega
 have hc:w.cell? ⟨vb,i,none⟩=some (.pointer (some ⟨gs[i],0,none⟩)):=by
  rw [h.own.cellAt i (by omega)]
  simp [bD,hgi]
 have cz:∀ o,(w.alloc o).cell? ⟨vb,i,none⟩=some (.pointer (some ⟨gs[i],0,none⟩)):=fun o=>by rw [World.cell?_alloc_past _ _ _ dB];exact hc
 have HH:=aB (fun (W:World) (hk:K0 w W)=>vI ((h.at_ i _ t hgi hi).k0 hk) hu)
 have mC:=h.few
 clear h hc
 generalize gs[i]=g at *
 generalize gs.length=n at *
 go_enter Tryz.func119,Tryz.ntmps119
 go_wp2_with fail
 refine (aA HH _ (Kp.alloc _ _ _)).mono ?_
 rintro e w1 ⟨x,rfl,hx,aY⟩
 go_wp2
 go_ret
 exact ⟨⟨x,rfl,hx⟩,K0.trans (Kp.alloc _ _ _) aY⟩
def aDG (w:World) (ts:List PT) (u:List UInt8) (m:Int) (e:Ending) (w':World):Prop:=
 ((∃ (i:Nat) (t:PT),ts[i]? = some t/\M t u/\(∀ (j:Nat) (t':PT),j<i->ts[j]? = some t'->¬ M t' u)/\e = .returned (.int .i64 (i:Int)))\/((∀ t,t∈ts->¬ M t u)/\e = .panicked (kL m)))/\K0 w w'
theorem t6 {w:World} {sl:Value} {gs:List Nat} {ts:List PT} {m:Int} {u:List UInt8} (h:qO w sl gs ts) (hu:u.length<=1000):
  Calls Tryz.prog 117 #[.agg #[.int .i64 m,sl],.string (aE u)] w fun e w'=>aDG w ts u m e w':=by
 obtain ⟨ao,cp,rfl⟩:=aG h.own
 have hlen:=h.len
 have mC:=h.few
 have HH:=aB (fun (W:World) (hk:K0 w W) (i:Nat) (t:PT) (hi:ts[i]? = some t)=>D7 (m:=m) (h.k0 hk) hi hu)
 clear h
 rw [hlen] at HH
 rw [hlen]
 go_enter Tryz.func117,Tryz.ntmps117
 go_wp2_with fail
 obtain ⟨w1,dC,hs1,b0,aY⟩:∃ w1,w.alloc (.cells #[.int .i64 m,.slice ao ts.length cp] 137 (0,0))=w1/\w1.heap.size=w.heap.size+1/\w1.heap[w.heap.size]? = some (.cells #[.int .i64 m,.slice ao ts.length cp] 137 (0,0))/\K0 w w1:=⟨_,rfl,by simp,heap_alloc_new w _,Kp.alloc _ _ _⟩
 rw [dC]
 clear dC
 go_loopg [9] (ts.length+2) (fun gk iv wv=>∃ i:Nat,iv = .int .i64 (i:Int)/\i<=ts.length/\ts.length-i<gk/\(∀ (j:Nat) (t':PT),j<i->ts[j]? = some t'->¬ M t' u)/\K0 w1 wv)
 case atStart=>exact ⟨0,rfl,Nat.zero_le _,by omega,fun j t' h=>by omega,K0.refl _⟩
 case round=>
  obtain ⟨i,rfl,hi,fW,hno,hK⟩:=hrel
  have hb:=(hK.heap (aD b0)).trans b0
  have c0:=aC hb 0
  have c1:=aC hb 1
  simp at c0 c1
  have dC:IntKind.i64.wrap ((i:Int)+1)=(i:Int)+1:=IntWalk.i64_in _ (by omega)
  by_cases hlt:i<ts.length
  ·have q7:(i:Int)<(ts.length:Int):=by omega
   have hti:ts[i]? = some ts[i]:=List.getElem?_eq_getElem hlt
   have HP:=aB (aA HH wr (aY.trans hK) i _ hti)
   have H7:=aB (And.intro hno (And.intro hK hti))
   clear hno hK hti
   go_wp2_with fail
   refine (aA HP).mono ?_
   rintro e w2 ⟨⟨x,rfl,hx⟩,hk2⟩
   cases x
   ·have HX:=aB (And.intro (show ¬ M ts[i] u from fun h=>by have:=hx.2 h;cases this) hk2)
    clear hx hk2
    go_wp2_with fail
    go_roundg (gk-1)
    case measure=>omega
    case rel=>
     obtain ⟨hno,hK,hti⟩:=aA H7
     refine ⟨i+1,by go_num,by omega,by omega,fun j t' hj ht=>?_,hK.trans (aA HX).2⟩
     by_cases e:j=i
     ·subst e
      rw [hti] at ht
      rw [← Option.some.inj ht]
      exact (aA HX).1
     ·exact hno j t' (by omega) ht
   ·have HX:=aB (And.intro (hx.1 rfl) hk2)
    clear hx hk2
    go_wp2
    go_ret
    obtain ⟨hno,hK,hti⟩:=aA H7
    exact ⟨.inl ⟨i,ts[i],hti,(aA HX).1,hno,rfl⟩,(aY.trans hK).trans (aA HX).2⟩
  ·have q7:¬ (i:Int)<(ts.length:Int):=by omega
   have H7:=aB (And.intro hno hK)
   clear hno hK
   go_wp2
   obtain ⟨hno,hK⟩:=aA H7
   refine ⟨rfl,.inr ⟨fun t ht hm=>?_,rfl⟩,aY.trans hK⟩
   obtain ⟨j,hj,rfl⟩:=List.getElem_of_mem ht
   exact hno j _ (by omega) (List.getElem?_eq_getElem hj) hm
end Go.Proofs.YtlljggefbngkeaaGreatDoor
