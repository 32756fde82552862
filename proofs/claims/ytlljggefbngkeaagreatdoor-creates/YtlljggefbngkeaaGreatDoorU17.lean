import Derived.Test.YtlljggefbngkeaaGreatDoorU16
import Derived.Test.YtlljggefbngkeaaGreatDoorU11
import Derived.Deep.RegionLaw
import Derived.Deep.RegionHeld3
import Derived.BigQuiet
set_option maxRecDepth 100000
set_option maxHeartbeats 3200000
namespace Go.Proofs.YtlljggefbngkeaaGreatDoor
open Go.RowKit
theorem Tryz.infoStr:(Tryz.prog.info? 9).map (fun i=>(i.zero,i.size,i.bytes))=some (some (.string ByteArray.empty),1,16):=by kernel_rfl
theorem mW (v:List UInt8) (i:Nat):(aE v).extract 0 i=aE (v.take i):=by
 have:=jI (aE v) 0 i
 rw [← this]
 have e:(aE v).data.toList=v:=by simp [aE]
 rw [e,iM]
theorem QJ (v:List UInt8) (i:Nat):(aE v).extract i (aE v).size=aE (v.drop i):=by
 have:=jI (aE v) i (aE v).size
 rw [← this,aO]
 have e:(aE v).data.toList=v:=by simp [aE]
 rw [e,jJ]
theorem kF (v:List UInt8) (i:Nat):(aE v).extract i v.length=aE (v.drop i):=by
 have:=QJ v i
 rwa [aO] at this
theorem PM.one {w:World} {gp cap:Nat} {P:List iD} {xs:List Value} (h:PM w gp cap P xs):∀ u∈xs,u.oneCell'=true:=by
 intro u hu
 obtain ⟨i,hi,rfl⟩:=List.getElem_of_mem hu
 have hl:xs.length=P.length*3:=h.own.1
 obtain ⟨v,h1,h2,h3,h4,_⟩:=h.pr (i / 3) (P[i / 3]'(by omega)) (List.getElem?_eq_getElem (by omega))
 have hx:xs[i]? = some xs[i]:=List.getElem?_eq_getElem hi
 rcases (by omega:i % 3=0\/i % 3=1\/i % 3=2) with e | e | e
 ·rw [show 3*(i / 3)=i by omega,hx] at h1
  rw [Option.some.inj h1];rfl
 ·rw [show 3*(i / 3)+1=i by omega,hx] at h2
  rw [Option.some.inj h2];rfl
 ·rw [show 3*(i / 3)+2=i by omega,hx] at h3
  rw [Option.some.inj h3];exact V0 h4
theorem PM.snoc {w w':World} {gp cap g c n0:Nat} {P:List iD} {xs:List Value} {k:Nat} (h:PM w gp cap P xs) (hk:K0 w w') (hn:w'.ownsRow 0 3 1 (.slice (some ⟨n0,0,none⟩) 1 1) 1 (cG [k]))
  (hown:w'.ownsRow 0 90 3 (.slice (some ⟨g,0,none⟩) (P.length+1) c) (P.length+1) (xs++[.int .u8 42,.string ⟨#[]⟩,.slice (some ⟨n0,0,none⟩) 1 1])):
  PM w' g c (P++[⟨42,⟨#[]⟩,[k]⟩]) (xs++[.int .u8 42,.string ⟨#[]⟩,.slice (some ⟨n0,0,none⟩) 1 1]) where
 own:=by rw [List.length_append,List.length_singleton];exact hown
 pr:=by
  have hl:xs.length=P.length*3:=h.own.1
  intro j p hp
  rcases Nat.lt_or_ge j P.length with hj | hj
  ·rw [List.getElem?_append_left hj] at hp
   obtain ⟨v,h1,h2,h3,h4,h5⟩:=(h.k0 hk).pr j p hp
   exact ⟨v,by rw [List.getElem?_append_left (by omega)];exact h1,by rw [List.getElem?_append_left (by omega)];exact h2,by rw [List.getElem?_append_left (by omega)];exact h3,h4,fun _ _ h=>h⟩
  ·have fR:=(List.getElem?_eq_some_iff.1 hp).1
   rw [List.length_append,List.length_singleton] at fR
   obtain rfl:j=P.length:=by omega
   rw [List.getElem?_append_right (Nat.le_refl _),Nat.sub_self] at hp
   obtain rfl:=Option.some.inj hp
   refine ⟨.slice (some ⟨n0,0,none⟩) 1 1,?_,?_,?_,hn,fun _ _ h=>h⟩
   ·rw [show 3*P.length=xs.length by omega,List.getElem?_append_right (Nat.le_refl _)];simp
   ·rw [show 3*P.length+1=xs.length+1 by omega,List.getElem?_append_right (by omega)];simp
   ·rw [show 3*P.length+2=xs.length+2 by omega,List.getElem?_append_right (by omega)];simp
def cD (l:List (List UInt8)):List Value:=l.map fun x => .string (aE x)
def JE (w:World) (l:List (List UInt8)) (e:Ending) (w':World):Prop:=∃ v,e = .returned v/\w'.ownsRow 0 9 1 v l.length (cD l)/\K0 w w'
theorem r7 {w:World} {g gp cap k:Nat} {P:List iD} {xs:List Value} {A:PT} {u:List UInt8} (hg:w.cell? ⟨g,0,none⟩=some (.slice (some ⟨gp,0,none⟩) P.length cap)) (oA:PM w gp cap P xs) (dI:P.length<=90000)
  (hr:dJ P A k) (hf:cR A=true) (PI:wf A=true) (h0:¬ M A []) (hu:M (.rep 42 A) u) (fF:u.length<=1000):
  Calls Tryz.prog 36 #[.pointer (some ⟨g,0,none⟩),.int .i64 k,.string (aE u)] w fun e w'=>JE w (dV A u) e w':=by
 obtain ⟨i0,jO,hz0,hz1,hz2⟩:=info_parts Tryz.infoPattern
 obtain ⟨i1,lW,wD,nL,xX⟩:=info_parts Tryz.infoStr
 have eC:g<w.heap.size:=World.block_lt_of_cell? w ⟨g,0,none⟩ hg
 have hPp:0<P.length:=by have:=hr.lt;omega
 have sL:=oA.one
 have hlt:gp<w.heap.size:=aJ oA.own gp rfl
 have cz:∀ o o',((w.alloc o).alloc o').cell? ⟨g,0,none⟩=some (.slice (some ⟨gp,0,none⟩) P.length cap):=fun o o'=>by rw [World.cell?_alloc_past _ _ _ (by simp;omega),World.cell?_alloc_past _ _ _ eC];exact hg
 have hxl:xs.length=P.length*3:=oA.own.1
 have hnews:∀ o o' j u,xs[j]? = some u->((w.alloc o).alloc o').cell? ((⟨gp,0,none⟩:Addr).add j)=some u:=by
  intro o o' j u hu
  have hj:j<xs.length:=(List.getElem?_eq_some_iff.1 hu).1
  have vO:(⟨gp,0,none⟩:Addr).add j=⟨gp,j,none⟩:=by unfold Addr.add;split <;> simp_all
  rw [vO,World.cell?_alloc_past _ _ _ (by simp;omega),World.cell?_alloc_past _ _ _ hlt,oA.own.cellAt j (by omega)]
  exact hu
 have HN:=aB (And.intro hnews sL)
 have H1:=aB (And.intro oA (And.intro hr (And.intro hf (And.intro PI (And.intro h0 hu)))))
 clear oA hr hf PI h0 hu hnews sL hg
 go_enter Tryz.func36,Tryz.ntmps36
 go_wp2_with (at_builtin;refine wpList_append_lies _ rfl (.tmp 17) (.tmp 21) 25 rfl 0 90 i0 _ 3 48 Tryz.underlying25 jO hz0 hz1 hz2 rfl (by decide) (.slice none 0 0) 0 [] rfl (World.ownsRow_nil _ _ _ _) ⟨gp,0,none⟩ P.length cap xs rfl hxl ((aA HN).1 _ _) (aA HN).2 hPp (by unfold maxLen;omega) (by omega) (Nat.zero_le _) _ rfl ?_)
 intro g5 cap5 w5 bB aL bW gH
 have XH:K0 w w5:=Kp.trans (Kp.trans (Kp.alloc _ w _) (Kp.alloc _ _ _)) (Kp.of_grown aL (fun _ e=>by cases e))
 have b0:w5.heap[w.heap.size]? = some (.cells #[.int .i64 k] 3 (0,0)):=(aL.block _ (by simp;omega) (by simp [Value.ownBlock])).trans (heap_alloc_old _ (heap_alloc_new w _))
 have b1:w5.heap[w.heap.size+1]? = some (.cells #[.int .u8 42,.string ⟨#[]⟩,.slice (some ⟨w.heap.size,0,none⟩) 1 1] 90 (0,0)):=(aL.block _ (by simp) (by simp [Value.ownBlock])).trans (bC w _ _)
 have m0:=aC b1 0
 have m1:=aC b1 1
 have m2:=aC b1 2
 simp at m0 m1 m2
 have hz5:=aD b1
 have hrow:w5.ownsRow 0 3 1 (.slice (some ⟨w.heap.size,0,none⟩) 1 1) 1 (cG [k]):=by
  have h1:(w.alloc (.cells #[.int .i64 k] 3 (0,0))).ownsRow 0 3 1 (.slice (some ⟨w.heap.size,0,none⟩) 1 1) 1 (cG [k]):=World.ownsRow_lit w _ 1 (by omega) (by unfold maxLen;omega) rfl
  exact aI h1 (fun j e=>by
   simp [Value.ownBlock] at e
   subst e
   rw [b0,heap_alloc_new])
 have H5:=aB (And.intro bB (And.intro XH hrow))
 have lN:(Value.slice (some ⟨g5,0,none⟩) P.length cap5).ownBlock=some g5:=rfl
 have aIX:g5=w.heap.size+2:=by
  rcases bW with e | e
  ·cases e
  ·simpa using e
 clear bB aL XH hrow b0 cz bW
 go_wp2_with (at_builtin;refine wpList_append_lies _ rfl (.tmp 23) (.tmp 25) 25 rfl 0 90 i0 _ 3 48 Tryz.underlying25 jO hz0 hz1 hz2 rfl (by decide) (.slice (some ⟨g5,0,none⟩) P.length cap5) P.length xs rfl ((aA H5).1.alloc _) ⟨w5.heap.size,0,none⟩ 1 1 [.int .u8 42,.string ⟨#[]⟩,.slice (some ⟨w.heap.size,0,none⟩) 1 1] rfl rfl (World.news_of_block (cs := #[.int .u8 42,.string ⟨#[]⟩,.slice (some ⟨w.heap.size,0,none⟩) 1 1]) (heap_alloc_new w5 _)) (by simp [Value.oneCell']) (by omega) (by unfold maxLen;omega) (by omega) (Nat.zero_le _) _ rfl ?_)
 intro g6 cap6 w6 qY yZ IA aIN
 have aCH:∀ j,j<w.heap.size+2->w6.heap[j]? = w5.heap[j]? := fun j hj=>by
  rw [yZ.block j (by simp;omega) (by simp [Value.ownBlock];omega)]
  exact Below.heap_alloc w5 _ j (by omega)
 have PQ:K0 w w6:=by
  obtain ⟨_,XH,_⟩:=aA H5
  refine ⟨yZ.os.trans XH.os,yZ.tape.trans XH.tape,yZ.output.trans XH.output,?_,fun j hj _=>?_⟩
  ·have a1:=yZ.size
   have a2:=XH.size
   simp at a1
   omega
  ·exact (aCH j (by omega)).trans (XH.heap hj)
 have aCS:=PM.snoc (k:=k) (aA H1).1 PQ (aI (aA H5).2.2 (fun j e=>by
  simp [Value.ownBlock] at e
  subst e
  exact aCH _ (by omega))) qY
 have hr6:dJ (P++[⟨42,⟨#[]⟩,[k]⟩]) (.rep 42 A) P.length:=by
  rw [dJ]
  exact ⟨.inl rfl,k,by simp,fO (aA H1).2.1⟩
 have hA6:dJ (P++[⟨42,⟨#[]⟩,[k]⟩]) A k:=fO (aA H1).2.1
 have hl6:(P++[(⟨42,⟨#[]⟩,[k]⟩:iD)]).length=P.length+1:=by simp
 have HI:=aB (fun (W:World) (hk:K0 w6 W) (d:ByteArray) (hd:d.size<=1000)=>V5 (aCS.k0 hk) (by omega) hA6 (aA H1).2.2.2.1 (d:=d) (by omega))
 have HR:=aB (fun (W:World) (hk:K0 w6 W) (d:ByteArray) (hd:d.size<=1000)=>V5 (aCS.k0 hk) (by omega) hr6 (by rw [wf,(aA H1).2.2.1,(aA H1).2.2.2.1];rfl) (d:=d) (by omega))
 rw [hl6] at HI HR
 have HU:=aB (And.intro (aA H1).2.2.2.2.1 (And.intro (aA H1).2.2.2.2.2 PQ))
 clear qY yZ IA aCH PQ aCS hr6 hA6 hl6 H5 H1 HN m0 m1 m2 b1
 go_wp2_with fail
 go_loopg [2,9] (u.length+2) (fun gk sv lv wv=>∃ (v:List UInt8) (l:List (List UInt8)),sv = .string (aE v)/\M (.rep 42 A) v/\v.length<=1000/\v.length<gk/\l.length+v.length<=1000/\dV A u=l++dV A v/\wv.ownsRow 0 9 1 lv l.length (cD l)/\(∀ j,lv.ownBlock=some j->w6.heap.size<=j)/\K0 w6 wv)
 case atStart=>exact ⟨u,[],rfl,(aA HU).2.1,fF,by omega,by simpa using fF,by simp,World.ownsRow_nil _ _ _ _,fun j e=>(by cases e),K0.refl _⟩
 case round=>
  obtain ⟨v,l,rfl,hv,dB,fW,hll,C9,hown,dY,hK⟩:=hrel
  obtain ⟨ao,cp,rfl⟩:=aG hown
  have H7:=aB (And.intro hv (And.intro C9 (And.intro hown (And.intro dY hK))))
  clear hv C9 hown dY hK
  by_cases hv0:v=[]
  ·subst hv0
   have t0:((aE []).toList.isEmpty)=true:=t7
   go_wp2
   go_ret
   obtain ⟨hv,C9,hown,dY,hK⟩:=aA H7
   rw [KM,List.append_nil] at C9
   rw [C9]
   exact ⟨_,rfl,hown,(aA HU).2.2.trans hK⟩
  ·have t0:((aE v).toList.isEmpty)=false:=wK v hv0
   have hvp:0<v.length:=List.length_pos_iff.2 hv0
   have hsz:(aE v).size=v.length:=aO v
   go_wp2_with fail
   rename World=>wo
   obtain ⟨gk0,TY⟩:∃ z,z=gk:=⟨_,rfl⟩
   go_loopg [10,11] (v.length+2) (fun gk nv iv wv=>∃ n m:Nat,nv = .int .i64 (n:Int)/\iv = .int .i64 (m:Int)/\m<n/\n<=v.length/\m<gk/\(∀ j,m<j->j<n->¬ (M A (v.take j)/\M (.rep 42 A) (v.drop j)))/\(n=v.length\/(M A (v.take n)/\M (.rep 42 A) (v.drop n)))/\K0 wo wv)
   case atStart=>exact ⟨v.length,v.length-1,rfl,by rw [show ((v.length:Int)-1)=((v.length-1:Nat):Int) by omega],by omega,Nat.le_refl _,by omega,fun j h1 h2=>by omega,.inl rfl,K0.refl _⟩
   case round=>
    obtain ⟨n,m,rfl,rfl,hmn,hnv,aIW,hno,V6,LH⟩:=hrel
    by_cases hm0:m=0
    ·subst hm0
     obtain ⟨hv,C9,hown,dY,hK⟩:=aA H7
     have hn:n=aH A (.rep 42 A) v:=by
      obtain ⟨_,c2,c3,c4,c5⟩:=bQ (mX hv0 hv)
      have c6:=pF (aA HU).1 hv0 hv
      rcases Nat.lt_trichotomy n (aH A (.rep 42 A) v) with h | h | h
      ·rcases V6 with h1 | h1
       ·omega
       ·exact absurd h1 (c5 n h)
      ·exact h
      ·exact absurd ⟨c3,c4⟩ (hno _ c6 h)
     have hown2:=aI hown (fun j e=>LH.heap (aJ hown j e))
     have hnn:(n:Int)<=(v.length:Int):=by omega
     have H8:=aB (And.intro hown2 (And.intro hn LH))
     clear hv C9 hown dY hK hno V6 LH hn
     go_wp2_with (at_builtin;refine wpList_append_lies _ rfl (.tmp 57) (.tmp 61) 64 rfl 0 9 i1 _ 1 16 Tryz.underlying64 lW wD nL xX rfl (by decide) (.slice ao l.length cp) l.length (cD l) rfl ((aA H8).1.alloc _) ⟨wr.heap.size,0,none⟩ 1 1 [.string ((aE v).extract 0 n)] rfl rfl (World.news_of_block (cs := #[.string ((aE v).extract 0 n)]) (heap_alloc_new wr _)) (by simp [Value.oneCell']) (by omega) (by unfold maxLen;omega) (by omega) (Nat.zero_le _) _ rfl ?_)
     intro g9 cap9 w9 CN kP UE aH3
     have HE:Hid (∃ (v':List UInt8) (l':List (List UInt8)),(aE v).extract n v.length=aE v'/\l'=l++[v.take n]/\M (.rep 42 A) v'/\v'.length<v.length/\dV A u=l'++dV A v'/\w9.ownsRow 0 9 1 (.slice (some ⟨g9,0,none⟩) (l.length+1) cap9) (l.length+1) (cD l')/\w6.heap.size<=g9/\K0 w6 w9):=by
      obtain ⟨hv,C9,hown,dY,hK⟩:=aA H7
      obtain ⟨hown2,hn,LH⟩:=aA H8
      obtain ⟨_,c2,c3,c4,c5⟩:=bQ (mX hv0 hv)
      have c6:=pF (aA HU).1 hv0 hv
      rw [← hn] at c2 c3 c4 c6
      have qH:=kP.size
      simp at qH
      have xN:=hK.trans LH
      have hzr:=xN.size
      refine ⟨v.drop n,_,kF v n,rfl,c4,by rw [List.length_drop];omega,?_,?_,?_,?_⟩
      ·rw [C9,BV (aA HU).1 hv0 hv,← hn,List.append_assoc];rfl
      ·have:cD (l++[v.take n])=cD l++[.string ((aE v).extract 0 n)]:=by rw [mW];simp [cD]
       rw [this]
       exact CN
      ·rcases UE with e | e
       ·exact dY g9 e
       ·omega
      ·refine ⟨kP.os.trans xN.os,kP.tape.trans xN.tape,kP.output.trans xN.output,by omega,fun j hj _=>?_⟩
       rw [kP.block j (by simp;omega) (fun e=>by have:=dY j e.symm;omega),Below.heap_alloc _ _ _ (by omega)]
       exact xN.heap hj
     clear CN kP UE H8
     go_wp2_with fail
     go_roundg (gk0-1)
     case measure=>omega
     case rel=>
      obtain ⟨v',l',e1,rfl,hv',aGP,aCA,xY,hf',dS⟩:=aA HE
      refine ⟨v',l++[v.take n],by rw [e1],hv',by omega,by omega,by rw [List.length_append,List.length_singleton];omega,aCA,?_,fun j e=>?_,dS⟩
      ·rw [List.length_append,List.length_singleton];exact xY
      ·simp [Value.ownBlock] at e
       omega
    ·have hmp:(0:Int)<(m:Int):=by omega
     have qI:(m:Int)<=(v.length:Int):=by omega
     have hwm:IntKind.i64.wrap ((m:Int)-1)=(m:Int)-1:=IntWalk.i64_in _ (by omega)
     have hwP:IntKind.i64.wrap (((P.length:Int)+1)-1)=(P.length:Int):=by rw [IntWalk.i64_in _ (by omega)];omega
     obtain ⟨hv,C9,hown,dY,hK⟩:=aA H7
     have HA:=aB (aA HI wr (hK.trans LH) ((aE v).extract 0 m) (by simp;omega))
     have H8:=aB (And.intro hno (And.intro V6 (And.intro LH hK)))
     clear hv C9 hown dY hK hno V6 LH
     go_wp2_with fail
     refine (aA HA).mono ?_
     rintro e w7 ⟨x,rfl,hx,PO⟩
     rw [mW,show (aE (v.take m)).data.toList=v.take m by simp [aE]] at hx
     cases x with
     | false=>
      have HX:=aB (And.intro hx PO)
      clear hx PO
      go_wp2_with fail
      go_roundg (gk-1)
      case measure=>omega
      case rel=>
       obtain ⟨hno,V6,LH,hK⟩:=aA H8
       refine ⟨n,m-1,rfl,by rw [show ((m:Int)-1)=((m-1:Nat):Int) by omega],by omega,hnv,by omega,fun j h1 h2 h3=>?_,V6,LH.trans (aA HX).2⟩
       by_cases e:j=m
       ·subst e
        have:=(aA HX).1.2 h3.1
        cases this
       ·exact hno j (by omega) h2 h3
     | true=>
      have HB:=aB (aA HR w7 (((aA H8).2.2.2.trans (aA H8).2.2.1).trans PO) ((aE v).extract m v.length) (by simp;omega))
      have HX:=aB (And.intro hx PO)
      clear hx PO
      go_wp2_with fail
      refine (aA HB).mono ?_
      rintro e w8 ⟨y,rfl,hy,hk8⟩
      rw [kF,show (aE (v.drop m)).data.toList=v.drop m by simp [aE]] at hy
      have HY:=aB (And.intro hy hk8)
      clear hy hk8
      cases y with
      | false=>
       go_wp2_with fail
       go_roundg (gk-1)
       case measure=>omega
       case rel=>
        obtain ⟨hno,V6,LH,hK⟩:=aA H8
        refine ⟨n,m-1,rfl,by rw [show ((m:Int)-1)=((m-1:Nat):Int) by omega],by omega,hnv,by omega,fun j h1 h2 h3=>?_,V6,(LH.trans (aA HX).2).trans (aA HY).2⟩
        by_cases e:j=m
        ·subst e
         have:=(aA HY).1.2 h3.2
         cases this
        ·exact hno j (by omega) h2 h3
      | true=>
       go_wp2_with fail
       go_roundg (gk-1)
       case measure=>omega
       case rel=>
        obtain ⟨hno,V6,LH,hK⟩:=aA H8
        exact ⟨m,m-1,rfl,by rw [show ((m:Int)-1)=((m-1:Nat):Int) by omega],by omega,by omega,by omega,fun j h1 h2 h3=>by omega,.inr ⟨(aA HX).1.1 trivial,(aA HY).1.1 trivial⟩,(LH.trans (aA HX).2).trans (aA HY).2⟩
def aDT (w:World) (gl:Nat) (L:List lS):Prop:=∀ (a:Nat) (x:lS),L[a]? = some x->∀ j,j<8->w.cell? ⟨gl,a*8+j,none⟩=(aQ x)[j]?
section
variable {w:World} {g:Nat} {P:List iD} {L:List lS} {r:Nat} {f:ByteArray} {gp cap gl cl:Nat} {xs:List Value}
theorem GM.c0 (h:GM w g P L r f gp cap gl cl xs):w.cell? ⟨g,0,none⟩=some (.slice (some ⟨gp,0,none⟩) P.length cap):=by rw [aC h.blk];rfl
theorem GM.c1 (h:GM w g P L r f gp cap gl cl xs):w.cell? ⟨g,1,none⟩=some (.slice (some ⟨gl,0,none⟩) L.length cl):=by rw [aC h.blk];rfl
theorem GM.c2 (h:GM w g P L r f gp cap gl cl xs):w.cell? ⟨g,2,none⟩=some (.int .i64 r):=by rw [aC h.blk];rfl
theorem GM.lt (h:GM w g P L r f gp cap gl cl xs):g<w.heap.size:=aD h.blk
theorem GM.ll (h:GM w g P L r f gp cap gl cl xs):gl<w.heap.size:=aJ h.own gl rfl
theorem GM.cells (h:GM w g P L r f gp cap gl cl xs):aDT w gl L:=by
 intro a x hx j hj
 have ha:=(List.getElem?_eq_some_iff.1 hx).1
 rw [World.ownsRow.cellAt h.own (a*8+j) (by omega)]
 exact GB L a x j hx hj
end
def jW (x:lS):Obj := .cells #[.int .u8 x.kind,.int .i64 x.a,.int .i64 x.b,.int .i64 x.at_,.string x.view,.string x.dflt,.int .i64 x.s,.int .i64 x.v] 35 (0,0)
theorem GM.eight {w:World} {g:Nat} {P:List iD} {L:List lS} {r:Nat} {f:ByteArray} {gp cap gl cl:Nat} {xs:List Value} (h:GM w g P L r f gp cap gl cl xs) {a:Nat} {x:lS} (hx:L[a]? = some x):
  w.cell? ⟨gl,a*8,none⟩=some (.int .u8 x.kind)/\w.cell? ⟨gl,a*8+1,none⟩=some (.int .i64 x.a)/\w.cell? ⟨gl,a*8+2,none⟩=some (.int .i64 x.b)/\w.cell? ⟨gl,a*8+3,none⟩=some (.int .i64 x.at_)/\
  w.cell? ⟨gl,a*8+4,none⟩=some (.string x.view)/\w.cell? ⟨gl,a*8+5,none⟩=some (.string x.dflt)/\w.cell? ⟨gl,a*8+6,none⟩=some (.int .i64 x.s)/\w.cell? ⟨gl,a*8+7,none⟩=some (.int .i64 x.v):=
 ⟨h.cells a x hx 0 (by omega),h.cells a x hx 1 (by omega),h.cells a x hx 2 (by omega),h.cells a x hx 3 (by omega),h.cells a x hx 4 (by omega),h.cells a x hx 5 (by omega),h.cells a x hx 6 (by omega),h.cells a x hx 7 (by omega)⟩
theorem jL (w:World) (x:Obj):∃ w1,w.alloc x=w1/\w1.heap.size=w.heap.size+1/\w1.heap[w.heap.size]? = some x/\K0 w w1:=⟨_,rfl,by simp,heap_alloc_new w x,Kp.alloc _ _ _⟩
theorem lC (u:List UInt8):(aE u).data.toList=u:=by simp [aE]
theorem nR {w:World} {gg gp cap:Nat} {P:List iD} {xs:List Value} {ka kb:Nat} {ta tb:PT} {u:List UInt8} (hg:w.cell? ⟨gg,0,none⟩=some (.slice (some ⟨gp,0,none⟩) P.length cap)) (oA:PM w gp cap P xs) (dI:P.length<=90000)
  (hra:dJ P ta ka) (WY:wf ta=true) (GO:dJ P tb kb) (hwb:wf tb=true) (hu:u.length<=1000) (hc:∃ i,i<=u.length/\M ta (u.take i)/\M tb (u.drop i)):
  Calls Tryz.prog 29 #[.pointer (some ⟨gg,0,none⟩),.int .i64 ka,.int .i64 kb,.string (aE u)] w fun e w'=>(∃ n:Int,e = .returned (.tuple #[.int .i64 n,.int .i64 ((aH ta tb u:Nat):Int)]))/\K0 w w':=by
 have hq:JF ta tb (aE u).data.toList (RP ta tb u):=by rw [lC];exact A8 ta tb u
 refine (aCX hq hg oA (by omega) hra WY GO hwb (by rw [aO];omega)).mono ?_
 rintro e w' ⟨rfl,hk⟩
 have:=(bQ hc).1
 unfold IT at this
 refine ⟨⟨((min (cnt (RP ta tb u) ((aE u).size+1)) 2:Nat):Int),?_⟩,hk⟩
 rw [aO,this]
def Z8 (w:World) (t:List UInt8) (e:Ending) (w':World):Prop:=e = .returned (.string (aE t))/\K0 w w'
theorem K0.cell {W W':World} (hk:K0 W W') {a:Addr} {v:Value} (h:W.cell? a=some v):W'.cell? a=some v:=by
 rw [World.cell?_of_block (w:=W) (hk.heap (World.block_lt_of_cell? W a h))]
 exact h
theorem mH {f:List UInt8->List UInt8} {l:List (List UInt8)} {m:Nat} (h:m<l.length):(l.take (m+1)).flatMap f=(l.take m).flatMap f++f l[m]:=by
 rw [List.take_add_one,List.getElem?_eq_getElem h,List.flatMap_append]
 simp
theorem rC {f:List UInt8->List UInt8} (l:List (List UInt8)) (m:Nat):((l.take m).flatMap f).length<=(l.flatMap f).length:=by
 have:l.flatMap f=(l.take m).flatMap f++(l.drop m).flatMap f:=by rw [← List.flatMap_append,List.take_append_drop]
 rw [this,List.length_append]
 omega
def C0 (x:lS):Value := .agg #[.int .u8 x.kind,.int .i64 x.a,.int .i64 x.b,.int .i64 x.at_,.string x.view,.string x.dflt,.int .i64 x.s,.int .i64 x.v]
def VT (w:World) (va vb:List UInt8) (e:Ending) (w':World):Prop:=e = .returned (.tuple #[.string (aE va),.string (aE vb)])/\K0 w w'
theorem F4 {w:World} {g:Nat} {P:List iD} {L:List lS} {r:Nat} {f:ByteArray} {gp cap gl cl:Nat} {xs:List Value} {a b:BT} {l:lS} {v:List UInt8} (hG:GM w g P L r f gp cap gl cl xs) (dI:P.length<=90000) (hlk:l.kind=114) (gY:LN P L a l.a) (kX:LN P L b l.b) (hv:∃ i,i<=v.length/\M (bV a) (v.take i)/\M (bV b) (v.drop i)) (dB:v.length<=1000):
  Calls Tryz.prog 39 #[.pointer (some ⟨g,0,none⟩),C0 l,.string (aE v)] w fun e w'=>VT w (v.take (aH (bV a) (bV b) v)) (v.drop (aH (bV a) (bV b) v)) e w':=by
 obtain ⟨x,hx,hx1⟩:=gY.node
 obtain ⟨y,hy,nL⟩:=kX.node
 have aY:=(List.getElem?_eq_some_iff.1 hx).1
 have hk2:=(List.getElem?_eq_some_iff.1 hy).1
 rcases l with ⟨lk,la,lb,lp,lvw,ldf,ls,lv⟩
 obtain rfl:lk=114:=hlk
 simp only at hx hy aY hk2 gY kX
 have eC:=hG.lt
 have oU:=hG.ll
 obtain ⟨_,dU,_,_,_⟩:=bQ hv
 have HP:=aB (fun (W:World) (hk:K0 w W)=>nR (hG.k0 hk).c0 (hG.k0 hk).pm dI hx1.2.2 hx1.1.2.2.2 nL.2.2 nL.1.2.2.2 dB hv)
 have HG:=aB (And.intro hG (And.intro hx hy))
 have hai:(la:Int)<(L.length:Int):=by omega
 have hbi:(lb:Int)<(L.length:Int):=by omega
 have NZ:((aH (bV a) (bV b) v:Nat):Int)<=(v.length:Int):=by omega
 have AK:(aE v).extract 0 (aH (bV a) (bV b) v)=aE (v.take (aH (bV a) (bV b) v)):=mW _ _
 have WZ:(aE v).extract (aH (bV a) (bV b) v) v.length=aE (v.drop (aH (bV a) (bV b) v)):=kF _ _
 have hsu:(aE v).size=v.length:=aO v
 clear hx hy hG hx1 nL dI gY kX hv dU
 generalize aH (bV a) (bV b) v=i at *
 unfold C0
 simp only
 go_enter Tryz.func39,Tryz.ntmps39
 go_wp2_with fail
 obtain ⟨w1,dC,hs1,b0,cT⟩:=jL w (jW ⟨114,la,lb,lp,lvw,ldf,ls,lv⟩)
 unfold jW at dC b0
 rw [dC]
 have m1:=aC b0 1
 have m2:=aC b0 2
 simp at m1 m2
 obtain ⟨_,_,_,_,_,_,_,x7⟩:=((aA HG).1.k0 cT).eight (aA HG).2.1
 obtain ⟨_,_,_,_,_,_,_,y7⟩:=((aA HG).1.k0 cT).eight (aA HG).2.2
 have d1:=((aA HG).1.k0 cT).c1
 have fV:K0 w w1.drew:=cT.trans (Kp.drew _ _)
 have m9:Hid (∀ W:World,(K0 w W/\W.cell? ⟨g,1,none⟩=some (.slice (some ⟨gl,0,none⟩) L.length cl)/\W.cell? ⟨w.heap.size,1,none⟩=some (.int .i64 la)/\W.cell? ⟨w.heap.size,2,none⟩=some (.int .i64 lb)/\W.cell? ⟨gl,la*8+7,none⟩=some (.int .i64 x.v)/\W.cell? ⟨gl,lb*8+7,none⟩=some (.int .i64 y.v))->Calls Tryz.prog 29 #[.pointer (some ⟨g,0,none⟩),.int .i64 x.v,.int .i64 y.v,.string (aE v)] W fun e W'=>(∃ n:Int,e = .returned (.tuple #[.int .i64 n,.int .i64 ((i:Nat):Int)]))/\(K0 w W'/\W'.cell? ⟨g,1,none⟩=some (.slice (some ⟨gl,0,none⟩) L.length cl)/\W'.cell? ⟨w.heap.size,1,none⟩=some (.int .i64 la)/\W'.cell? ⟨w.heap.size,2,none⟩=some (.int .i64 lb)/\W'.cell? ⟨gl,la*8+7,none⟩=some (.int .i64 x.v)/\W'.cell? ⟨gl,lb*8+7,none⟩=some (.int .i64 y.v))):=
  aB (fun W h=>(aA HP W h.1).mono (fun e W' h2=>⟨h2.1,h.1.trans h2.2,h2.2.cell h.2.1,h2.2.cell h.2.2.1,h2.2.cell h.2.2.2.1,h2.2.cell h.2.2.2.2.1,h2.2.cell h.2.2.2.2.2⟩))
 clear dC cT b0 HP HG
 go_region_held3 (fun W=>(K0 w W/\W.cell? ⟨g,1,none⟩=some (.slice (some ⟨gl,0,none⟩) L.length cl)/\W.cell? ⟨w.heap.size,1,none⟩=some (.int .i64 la)/\W.cell? ⟨w.heap.size,2,none⟩=some (.int .i64 lb)/\W.cell? ⟨gl,la*8+7,none⟩=some (.int .i64 x.v)/\W.cell? ⟨gl,lb*8+7,none⟩=some (.int .i64 y.v))) (go_keep) (first | (go_at_call 29;refine (aA m9 _ (by assumption)).mono ?_;rintro e w2 ⟨⟨n,rfl⟩,iH⟩))
 clear x7 y7 d1 m1 m2 fV m9
 have XZ:=aB iH.1
 clear iH
 go_wp2_with fail
 go_quiet (fail)
 go_wp2
 go_ret2
 exact ⟨rfl,(aA XZ).trans (Kp.drewN _ _ _)⟩
theorem e6 {w:World} {g:Nat} {P:List iD} {L:List lS} {r:Nat} {f:ByteArray} {gp cap gl cl:Nat} {xs:List Value} {a b:BT} {l:lS} {v:List UInt8} (hG:GM w g P L r f gp cap gl cl xs) (dI:P.length<=90000) (hlk:l.kind=126) (gY:LN P L a l.a) (kX:LN P L b l.b) (hv:∃ i,i<=v.length/\M (bV b) (v.take i)/\M (bV a) (v.drop i)) (dB:v.length<=1000):
  Calls Tryz.prog 39 #[.pointer (some ⟨g,0,none⟩),C0 l,.string (aE v)] w fun e w'=>VT w (v.drop (aH (bV b) (bV a) v)) (v.take (aH (bV b) (bV a) v)) e w':=by
 obtain ⟨x,hx,hx1⟩:=gY.node
 obtain ⟨y,hy,nL⟩:=kX.node
 have aY:=(List.getElem?_eq_some_iff.1 hx).1
 have hk2:=(List.getElem?_eq_some_iff.1 hy).1
 rcases l with ⟨lk,la,lb,lp,lvw,ldf,ls,lv⟩
 obtain rfl:lk=126:=hlk
 simp only at hx hy aY hk2 gY kX
 have eC:=hG.lt
 have oU:=hG.ll
 obtain ⟨_,dU,_,_,_⟩:=bQ hv
 have HP:=aB (fun (W:World) (hk:K0 w W)=>nR (hG.k0 hk).c0 (hG.k0 hk).pm dI nL.2.2 nL.1.2.2.2 hx1.2.2 hx1.1.2.2.2 dB hv)
 have HG:=aB (And.intro hG (And.intro hx hy))
 have hai:(la:Int)<(L.length:Int):=by omega
 have hbi:(lb:Int)<(L.length:Int):=by omega
 have NZ:((aH (bV b) (bV a) v:Nat):Int)<=(v.length:Int):=by omega
 have AK:(aE v).extract 0 (aH (bV b) (bV a) v)=aE (v.take (aH (bV b) (bV a) v)):=mW _ _
 have WZ:(aE v).extract (aH (bV b) (bV a) v) v.length=aE (v.drop (aH (bV b) (bV a) v)):=kF _ _
 have hsu:(aE v).size=v.length:=aO v
 clear hx hy hG hx1 nL dI gY kX hv dU
 generalize aH (bV b) (bV a) v=i at *
 unfold C0
 simp only
 go_enter Tryz.func39,Tryz.ntmps39
 go_wp2_with fail
 obtain ⟨w1,dC,hs1,b0,cT⟩:=jL w (jW ⟨126,la,lb,lp,lvw,ldf,ls,lv⟩)
 unfold jW at dC b0
 rw [dC]
 have m1:=aC b0 1
 have m2:=aC b0 2
 simp at m1 m2
 obtain ⟨_,_,_,_,_,_,_,x7⟩:=((aA HG).1.k0 cT).eight (aA HG).2.1
 obtain ⟨_,_,_,_,_,_,_,y7⟩:=((aA HG).1.k0 cT).eight (aA HG).2.2
 have d1:=((aA HG).1.k0 cT).c1
 have fV:K0 w w1.drew:=cT.trans (Kp.drew _ _)
 have m9:Hid (∀ W:World,(K0 w W/\W.cell? ⟨g,1,none⟩=some (.slice (some ⟨gl,0,none⟩) L.length cl)/\W.cell? ⟨w.heap.size,1,none⟩=some (.int .i64 la)/\W.cell? ⟨w.heap.size,2,none⟩=some (.int .i64 lb)/\W.cell? ⟨gl,la*8+7,none⟩=some (.int .i64 x.v)/\W.cell? ⟨gl,lb*8+7,none⟩=some (.int .i64 y.v))->Calls Tryz.prog 29 #[.pointer (some ⟨g,0,none⟩),.int .i64 y.v,.int .i64 x.v,.string (aE v)] W fun e W'=>(∃ n:Int,e = .returned (.tuple #[.int .i64 n,.int .i64 ((i:Nat):Int)]))/\(K0 w W'/\W'.cell? ⟨g,1,none⟩=some (.slice (some ⟨gl,0,none⟩) L.length cl)/\W'.cell? ⟨w.heap.size,1,none⟩=some (.int .i64 la)/\W'.cell? ⟨w.heap.size,2,none⟩=some (.int .i64 lb)/\W'.cell? ⟨gl,la*8+7,none⟩=some (.int .i64 x.v)/\W'.cell? ⟨gl,lb*8+7,none⟩=some (.int .i64 y.v))):=
  aB (fun W h=>(aA HP W h.1).mono (fun e W' h2=>⟨h2.1,h.1.trans h2.2,h2.2.cell h.2.1,h2.2.cell h.2.2.1,h2.2.cell h.2.2.2.1,h2.2.cell h.2.2.2.2.1,h2.2.cell h.2.2.2.2.2⟩))
 clear dC cT b0 HP HG
 go_region_held3 (fun W=>(K0 w W/\W.cell? ⟨g,1,none⟩=some (.slice (some ⟨gl,0,none⟩) L.length cl)/\W.cell? ⟨w.heap.size,1,none⟩=some (.int .i64 la)/\W.cell? ⟨w.heap.size,2,none⟩=some (.int .i64 lb)/\W.cell? ⟨gl,la*8+7,none⟩=some (.int .i64 x.v)/\W.cell? ⟨gl,lb*8+7,none⟩=some (.int .i64 y.v))) (go_keep) (first | (go_at_call 29;refine (aA m9 _ (by assumption)).mono ?_;rintro e w2 ⟨⟨n,rfl⟩,iH⟩))
 clear x7 y7 d1 m1 m2 fV m9
 have XZ:=aB iH.1
 clear iH
 go_wp2_with fail
 go_quiet (fail)
 go_wp2
 go_ret2
 exact ⟨rfl,(aA XZ).trans (Kp.drewN _ _ _)⟩
theorem ZX {p:Nat} {a b:BT} {u:List UInt8} (h:M (bV a) u):bA (.two 124 p a b) u=bA a u:=by rw [bA,if_pos rfl,if_pos h]
theorem ZW {p:Nat} {a b:BT} {u:List UInt8} (h:¬ M (bV a) u):bA (.two 124 p a b) u=bA b u:=by rw [bA,if_pos rfl,if_neg h]
structure dD (c:BT):Prop where
 go:∀ {w:World} {g:Nat} {P:List iD} {L:List lS} {r:Nat} {f:ByteArray} {gp cap gl cl:Nat} {xs:List Value} {k:Nat} {u:List UInt8},GM w g P L r f gp cap gl cl xs->P.length<=90000->LN P L c k->M (bV c) u->u.length<=1000->
  Calls Tryz.prog 23 #[.pointer (some ⟨g,0,none⟩),.int .i64 k,.string (aE u)] w fun e w'=>Z8 w (bA c u) e w'
theorem SU (t:PT):dD (.pat t):=by
 refine ⟨?_⟩
 intro w g P L r f gp cap gl cl xs k u hG dI hc hu fF
 obtain ⟨l,hl,_,hlk⟩:=hc
 have eE:=(List.getElem?_eq_some_iff.1 hl).1
 have eC:=hG.lt
 have oU:=hG.ll
 have CS:(k:Int)<(L.length:Int):=by omega
 have c1:=hG.c1
 obtain ⟨l0,l1,l2,l3,l4,l5,l6,l7⟩:=hG.eight hl
 rcases l with ⟨lk,la,lb,lp,lvw,ldf,ls,lv⟩
 simp only at l0 l1 l2 l3 l4 l5 l6 l7 hlk
 subst hlk
 clear hG hl hu
 go_enter Tryz.func23,Tryz.ntmps23
 go_wp2
 go_ret
 exact ⟨by rw [bA];rfl,Kp.alloc _ _ _⟩
theorem SV (t:PT) (v d:List UInt8):dD (.key t v d):=by
 refine ⟨?_⟩
 intro w g P L r f gp cap gl cl xs k u hG dI hc hu fF
 obtain ⟨l,hl,_,hlk,_,hlv,_⟩:=hc
 have eE:=(List.getElem?_eq_some_iff.1 hl).1
 have eC:=hG.lt
 have oU:=hG.ll
 have CS:(k:Int)<(L.length:Int):=by omega
 have c1:=hG.c1
 obtain ⟨l0,l1,l2,l3,l4,l5,l6,l7⟩:=hG.eight hl
 rcases l with ⟨lk,la,lb,lp,lvw,ldf,ls,lv⟩
 simp only at l0 l1 l2 l3 l4 l5 l6 l7 hlk hlv
 subst hlk
 subst hlv
 clear hG hl hu
 go_enter Tryz.func23,Tryz.ntmps23
 go_wp2
 go_ret
 exact ⟨by rw [bA];rfl,Kp.alloc _ _ _⟩
theorem SW {p:Nat} {a b:BT} (ia:dD a) (ib:dD b):dD (.two 124 p a b):=by
 refine ⟨?_⟩
 intro w g P L r f gp cap gl cl xs k u hG dI hc hu fF
 obtain ⟨l,hl,oN,hlk,_,hat,gY,kX⟩:=hc
 obtain ⟨x,hx,hx1⟩:=gY.node
 have eE:=(List.getElem?_eq_some_iff.1 hl).1
 have aY:=(List.getElem?_eq_some_iff.1 hx).1
 clear oN hat
 rcases l with ⟨lk,la,lb,lp,lvw,ldf,ls,lv⟩
 obtain rfl:lk=124:=hlk
 simp only at hx aY gY kX
 have eC:=hG.lt
 have oU:=hG.ll
 have HA:=aB (fun (W:World) (hk:K0 w W)=>gin (d:=aE u) (hG.k0 hk).c0 (hG.k0 hk).pm (by omega) hx1.2.2 hx1.1.2.2.2 (by rw [aO];omega))
 have HL:=aB (fun (W:World) (hk:K0 w W) (h:M (bV a) u)=>ia.go (hG.k0 hk) dI gY h fF)
 have HR:=aB (fun (W:World) (hk:K0 w W) (h:M (bV b) u)=>ib.go (hG.k0 hk) dI kX h fF)
 have HG:=aB (And.intro hG hx)
 have CS:(k:Int)<(L.length:Int):=by omega
 have hai:(la:Int)<(L.length:Int):=by omega
 have c1:=hG.c1
 obtain ⟨l0,l1,l2,l3,l4,l5,l6,l7⟩:=hG.eight hl
 simp only at l0 l1 l2 l3 l4 l5 l6 l7
 have HU:=aB (QH hu)
 clear hl hx hG hx1 dI gY kX hu
 go_enter Tryz.func23,Tryz.ntmps23
 go_wp2_with fail
 obtain ⟨w1,dC,hs1,b0,cT⟩:=jL w (jW ⟨124,la,lb,lp,lvw,ldf,ls,lv⟩)
 unfold jW at dC b0
 rw [dC]
 have m1:=aC b0 1
 simp at m1
 obtain ⟨_,_,_,_,_,_,_,x6⟩:=((aA HG).1.k0 cT).eight (aA HG).2
 have d1:=((aA HG).1.k0 cT).c1
 have HK1:=aB cT
 have HB0:=aB b0
 clear dC c1 l0 l1 l2 l3 l4 l5 l6 l7 cT b0
 go_region_law (go_simp;go_at_call 30;refine (aA HA _ ((aA HK1).trans (Kp.drew _ _))).mono ?_;rintro e w2 ⟨v,rfl,hv,jX⟩)
 all_goals
  have lJ:=((aA HK1).trans (Kp.drew _ w1)).trans jX
  have a0:=(jX.heap (aD (aA HB0):w.heap.size<w1.drew.heap.size)).trans (aA HB0)
  have n1:=aC a0 1
  have n2:=aC a0 2
  simp at n1 n2
  rw [lC] at hv
  have HV:=aB hv
  have M8:=aB lJ
  clear hv lJ jX a0 d1 x6 m1
  cases v
  ·have i6:¬ M (bV a) u:=fun h=>by have:=(aA HV).2 h;cases this
   have HC:=aB (aA HR _ (aA M8) ((aA HU).resolve_left i6))
   have JP:=aB i6
   clear i6
   go_wp2_with fail
   refine (aA HC).mono ?_
   rintro e w3 ⟨rfl,hk3⟩
   go_wp2
   go_ret
   exact ⟨by rw [ZW (aA JP)];rfl,(aA M8).trans hk3⟩
  ·have i6:M (bV a) u:=(aA HV).1 rfl
   have HC:=aB (aA HL _ (aA M8) i6)
   have JP:=aB i6
   clear i6
   go_wp2_with fail
   refine (aA HC).mono ?_
   rintro e w3 ⟨rfl,hk3⟩
   go_wp2
   go_ret
   exact ⟨by rw [ZX (aA JP)];rfl,(aA M8).trans hk3⟩
theorem NN {p:Nat} {a:BT} (hne:pQ (.star p a)) (hsz:fH (.star p a)<=800) (ia:dD a):dD (.star p a):=by
 refine ⟨?_⟩
 intro w g P L r f gp cap gl cl xs k u hG dI hc hu fF
 obtain ⟨l,hl,oN,hlk,hat,gY⟩:=hc
 obtain ⟨x,hx,hx1⟩:=gY.node
 have eE:=(List.getElem?_eq_some_iff.1 hl).1
 have aY:=(List.getElem?_eq_some_iff.1 hx).1
 clear oN hat
 rcases l with ⟨lk,la,lb,lp,lvw,ldf,ls,lv⟩
 obtain rfl:lk=42:=hlk
 simp only at hx aY gY
 have eC:=hG.lt
 have oU:=hG.ll
 obtain ⟨eI,eG⟩:=lH hne.2.1 (u:=u) hu
 have hlen:=jN _ hne u hu
 have fQ:=e9 (n:=u.length) hsz fF
 have hpl:∀ y,y∈dV (bV a) u->y.length<=1000:=fun y hy=>by
  have:y.length<=(dV (bV a) u).flatten.length:=(List.sublist_flatten_of_mem hy).length_le
  rw [eG] at this
  omega
 have f9:(dV (bV a) u).length<=1000:=by
  have:(dV (bV a) u).length<=(dV (bV a) u).flatten.length:=by
   generalize dV (bV a) u=q at eI
   clear hlen
   induction q with
   | nil=>simp
   | cons y q ih=>
    have h1:=ih (fun z hz=>eI z (List.mem_cons_of_mem _ hz))
    have h2:=List.length_pos_iff.2 (eI y List.mem_cons_self).2
    rw [List.flatten_cons,List.length_append,List.length_cons]
    omega
  rw [eG] at this
  omega
 have HP:=aB (fun (W:World) (hk:K0 w W)=>r7 (hG.k0 hk).c0 (hG.k0 hk).pm dI hx1.2.2 hx1.1.2.1 hx1.1.2.2.2 hne.2.1 hu fF)
 have HL:=aB (fun (W:World) (hk:K0 w W) (y:List UInt8) (hy:y∈dV (bV a) u)=>ia.go (hG.k0 hk) dI gY (eI y hy).1 (hpl y hy))
 have HG:=aB (And.intro hG hx)
 have CS:(k:Int)<(L.length:Int):=by omega
 have hai:(la:Int)<(L.length:Int):=by omega
 have c1:=hG.c1
 obtain ⟨l0,l1,l2,l3,l4,l5,l6,l7⟩:=hG.eight hl
 simp only at l0 l1 l2 l3 l4 l5 l6 l7
 have hF:bA (.star p a) u=(dV (bV a) u).flatMap (bA a):=by rw [bA]
 have aEG:((dV (bV a) u).flatMap (bA a)).length<=98000000:=by rw [← hF];omega
 have HF:=aB hF
 clear hl hx hG hx1 dI gY hu hF hne hsz hlen fQ ia eI eG hpl
 generalize dV (bV a) u=q at *
 generalize bA a=fa at *
 go_enter Tryz.func23,Tryz.ntmps23
 go_wp2_with fail
 obtain ⟨w1,dC,hs1,b0,cT⟩:=jL w (jW ⟨42,la,lb,lp,lvw,ldf,ls,lv⟩)
 unfold jW at dC b0
 rw [dC]
 have m1:=aC b0 1
 simp at m1
 obtain ⟨_,_,_,_,_,_,_,x6⟩:=((aA HG).1.k0 cT).eight (aA HG).2
 have d1:=((aA HG).1.k0 cT).c1
 have fV:K0 w w1.drew:=cT.trans (Kp.drew _ _)
 have m9:Hid (∀ W:World,(K0 w W/\W.cell? ⟨g,1,none⟩=some (.slice (some ⟨gl,0,none⟩) L.length cl)/\W.cell? ⟨w.heap.size,1,none⟩=some (.int .i64 la)/\W.cell? ⟨gl,la*8+7,none⟩=some (.int .i64 x.v))->
   Calls Tryz.prog 36 #[.pointer (some ⟨g,0,none⟩),.int .i64 x.v,.string (aE u)] W fun e W'=>(∃ v,e = .returned v/\W'.ownsRow 0 9 1 v q.length (cD q))/\(K0 w W'/\W'.cell? ⟨g,1,none⟩=some (.slice (some ⟨gl,0,none⟩) L.length cl)/\W'.cell? ⟨w.heap.size,1,none⟩=some (.int .i64 la)/\W'.cell? ⟨gl,la*8+7,none⟩=some (.int .i64 x.v))):=
  aB (fun W h=>(aA HP W h.1).mono (fun e W' h2=>by
   obtain ⟨v,rfl,ho,hk⟩:=h2
   exact ⟨⟨v,rfl,ho⟩,h.1.trans hk,hk.cell h.2.1,hk.cell h.2.2.1,hk.cell h.2.2.2⟩))
 clear dC c1 l0 l1 l2 l3 l4 l5 l6 l7 cT b0 HP HG
 go_region_held3 (fun W=>K0 w W/\W.cell? ⟨g,1,none⟩=some (.slice (some ⟨gl,0,none⟩) L.length cl)/\W.cell? ⟨w.heap.size,1,none⟩=some (.int .i64 la)/\W.cell? ⟨gl,la*8+7,none⟩=some (.int .i64 x.v)) (go_keep) (first | (go_at_call 36;refine (aA m9 _ (by assumption)).mono ?_;rintro e w2 ⟨⟨v,rfl,ho⟩,iH⟩))
 clear x6 d1 m1 fV m9
 obtain ⟨ao,cp,rfl⟩:=aG ho
 obtain ⟨hk2,_,m1,_⟩:=iH
 have HO:=aB (And.intro ho hk2)
 clear ho hk2
 go_wp2_with fail
 go_loopg [9,11] (q.length+2) (fun gk ov iv wv=>∃ m:Nat,iv = .int .i64 (m:Int)/\m<=q.length/\q.length-m<gk/\ov = .string (aE ((q.take m).flatMap fa))/\K0 w2 wv)
 case atStart=>exact ⟨0,rfl,Nat.zero_le _,by omega,rfl,K0.refl _⟩
 case round=>
  obtain ⟨m,rfl,hm,fW,rfl,hK⟩:=hrel
  have dC:IntKind.i64.wrap ((m:Int)+1)=(m:Int)+1:=IntWalk.i64_in _ (by omega)
  by_cases hlt:m<q.length
  ·have q7:(m:Int)<(q.length:Int):=by omega
   obtain ⟨vb,cap2,e,_,dB⟩:=(aA HO).1.form (by omega)
   injection e with e1 e2 e3
   subst e1
   clear e2 e3 cap2
   have n1:wr.cell? ⟨w.heap.size,1,none⟩=some (.int .i64 la):=hK.cell m1
   have ns:wr.cell? ⟨vb,m,none⟩=some (.string (aE q[m])):=by
    have h2:=(aA HO).1.cellAt m (by omega)
    have:(cD q)[m]? = some (.string (aE q[m])):=by simp [cD,hlt]
    rw [this] at h2
    exact hK.cell h2
   have fV:K0 w wr.drew:=((aA HO).2.trans hK).trans (Kp.drew _ _)
   have hkw:K0 w2 wr.drew:=hK.trans (Kp.drew _ _)
   have lM:Hid (∀ W:World,(K0 w W/\K0 w2 W/\W.cell? ⟨w.heap.size,1,none⟩=some (.int .i64 la)/\W.cell? ⟨vb,m,none⟩=some (.string (aE q[m])))->
     Calls Tryz.prog 23 #[.pointer (some ⟨g,0,none⟩),.int .i64 la,.string (aE q[m])] W fun e W'=>e = .returned (.string (aE (fa q[m])))/\(K0 w W'/\K0 w2 W'/\W'.cell? ⟨w.heap.size,1,none⟩=some (.int .i64 la)/\W'.cell? ⟨vb,m,none⟩=some (.string (aE q[m])))):=
    aB (fun W h=>(aA HL W h.1 q[m] (List.getElem_mem hlt)).mono (fun e W' h2=>⟨h2.1,h.1.trans h2.2,h.2.1.trans h2.2,h2.2.cell h.2.2.1,h2.2.cell h.2.2.2⟩))
   have s1:(aE ((q.take m).flatMap fa)).size+(aE (fa q[m])).size<=98000000:=by
    have:=rC (f:=fa) q (m+1)
    rw [mH hlt,List.length_append] at this
    rw [aO,aO]
    omega
   clear hK
   go_wp2_with fail
   go_region_held3 (fun W=>K0 w W/\K0 w2 W/\W.cell? ⟨w.heap.size,1,none⟩=some (.int .i64 la)/\W.cell? ⟨vb,m,none⟩=some (.string (aE q[m]))) (go_keep) (first | (go_at_call 23;refine (aA lM _ (by assumption)).mono ?_;rintro e w3 ⟨rfl,fX⟩))
   clear lM fV hkw n1 ns
   have HS3:=aB fX
   clear fX
   go_wp2_with fail
   go_roundg (gk-1)
   case measure=>omega
   case rel=>exact ⟨m+1,by go_num,by omega,by omega,by rw [mH hlt,cU],(aA HS3).2.1⟩
  ·have q7:¬ (m:Int)<(q.length:Int):=by omega
   obtain rfl:m=q.length:=by omega
   have HK:=aB ((aA HO).2.trans hK)
   clear hK
   go_wp2
   go_ret
   refine ⟨?_,aA HK⟩
   rw [aA HF]
   rfl
theorem ST {p:Nat} {a b:BT} (hne:pQ (.two 114 p a b)) (hsz:fH (.two 114 p a b)<=800) (ia:dD a) (ib:dD b):dD (.two 114 p a b):=by
 refine ⟨?_⟩
 intro w g P L r f gp cap gl cl xs k u hG dI hc hu fF
 obtain ⟨l,hl,oN,hlk,_,hat,gY,kX⟩:=hc
 have eE:=(List.getElem?_eq_some_iff.1 hl).1
 clear oN hat
 have eC:=hG.lt
 have oU:=hG.ll
 have hcut:=T6 (p:=p) (by decide:(114:Int)≠124) (by decide) hu
 obtain ⟨_,dU,h1,h2,_⟩:=bQ hcut
 have hlen:=jN _ hne u hu
 have fQ:=e9 (n:=u.length) hsz fF
 have HP:=aB (fun (W:World) (hk:K0 w W)=>F4 (l:=l) (hG.k0 hk) dI hlk gY kX hcut fF)
 have HL:=aB (fun (W:World) (hk:K0 w W)=>ia.go (hG.k0 hk) dI gY h1 (by rw [List.length_take];omega))
 have HR:=aB (fun (W:World) (hk:K0 w W)=>ib.go (hG.k0 hk) dI kX h2 (by rw [List.length_drop];omega))
 have CS:(k:Int)<(L.length:Int):=by omega
 have c1:=hG.c1
 obtain ⟨l0,l1,l2,l3,l4,l5,l6,l7⟩:=hG.eight hl
 rcases l with ⟨lk,la,lb,lp,lvw,ldf,ls,lv⟩
 obtain rfl:lk=114:=hlk
 simp only at l0 l1 l2 l3 l4 l5 l6 l7 gY kX
 unfold C0 at HP
 simp only at HP HL HR
 have hF:bA (.two 114 p a b) u=bA a (u.take (aH (bV a) (bV b) u))++bA b (u.drop (aH (bV a) (bV b) u)):=by rw [bA,if_neg (by decide),if_neg (by decide)]
 have C6:(bA a (u.take (aH (bV a) (bV b) u))).length+(bA b (u.drop (aH (bV a) (bV b) u))).length<=98000000:=by
  have:=congrArg List.length hF
  rw [List.length_append] at this
  omega
 have HF:=aB hF
 have s1:(aE (bA a (u.take (aH (bV a) (bV b) u)))).size+(aE (bA b (u.drop (aH (bV a) (bV b) u)))).size<=98000000:=by rw [aO,aO];omega
 clear hl hG dI gY kX hu hF hcut h1 h2 hne hsz hlen fQ ia ib dU C6
 generalize aH (bV a) (bV b) u=i at *
 generalize bA a (u.take i)=ra at *
 generalize bA b (u.drop i)=rb at *
 go_enter Tryz.func23,Tryz.ntmps23
 go_wp2_with fail
 obtain ⟨w1,dC,hs1,b0,cT⟩:=jL w (jW ⟨114,la,lb,lp,lvw,ldf,ls,lv⟩)
 unfold jW at dC b0
 rw [dC]
 clear dC c1 l0 l1 l2 l3 l4 l5 l6 l7
 refine (aA HP _ cT).mono ?_
 rintro e w2 ⟨rfl,hk2⟩
 have b2:=(hk2.heap (aD b0)).trans b0
 have m1:=aC b2 1
 simp at m1
 have jX:=cT.trans hk2
 clear b0
 go_wp2_with fail
 refine (aA HL _ jX).mono ?_
 rintro e w3 ⟨rfl,hk3⟩
 have b3:=(hk3.heap (aD b2)).trans b2
 have m2:=aC b3 2
 simp at m2
 have vN:=jX.trans hk3
 clear b2 m1
 go_wp2_with fail
 refine (aA HR _ vN).mono ?_
 rintro e w4 ⟨rfl,hk4⟩
 clear m2
 go_wp2
 go_ret
 refine ⟨?_,vN.trans hk4⟩
 rw [aA HF,cU]
 rfl
theorem NM {p:Nat} {a b:BT} (hne:pQ (.two 126 p a b)) (hsz:fH (.two 126 p a b)<=800) (ia:dD a) (ib:dD b):dD (.two 126 p a b):=by
 refine ⟨?_⟩
 intro w g P L r f gp cap gl cl xs k u hG dI hc hu fF
 obtain ⟨l,hl,oN,hlk,_,hat,gY,kX⟩:=hc
 have eE:=(List.getElem?_eq_some_iff.1 hl).1
 clear oN hat
 have eC:=hG.lt
 have oU:=hG.ll
 have hcut:=n9 hu
 obtain ⟨_,dU,h1,h2,_⟩:=bQ hcut
 have hlen:=jN _ hne u hu
 have fQ:=e9 (n:=u.length) hsz fF
 have HP:=aB (fun (W:World) (hk:K0 w W)=>e6 (l:=l) (hG.k0 hk) dI hlk gY kX hcut fF)
 have HL:=aB (fun (W:World) (hk:K0 w W)=>ia.go (hG.k0 hk) dI gY h2 (by rw [List.length_drop];omega))
 have HR:=aB (fun (W:World) (hk:K0 w W)=>ib.go (hG.k0 hk) dI kX h1 (by rw [List.length_take];omega))
 have CS:(k:Int)<(L.length:Int):=by omega
 have c1:=hG.c1
 obtain ⟨l0,l1,l2,l3,l4,l5,l6,l7⟩:=hG.eight hl
 rcases l with ⟨lk,la,lb,lp,lvw,ldf,ls,lv⟩
 obtain rfl:lk=126:=hlk
 simp only at l0 l1 l2 l3 l4 l5 l6 l7 gY kX
 unfold C0 at HP
 simp only at HP HL HR
 have hF:bA (.two 126 p a b) u=bA a (u.drop (aH (bV b) (bV a) u))++bA b (u.take (aH (bV b) (bV a) u)):=by rw [bA,if_neg (by decide),if_pos rfl]
 have C6:(bA a (u.drop (aH (bV b) (bV a) u))).length+(bA b (u.take (aH (bV b) (bV a) u))).length<=98000000:=by
  have:=congrArg List.length hF
  rw [List.length_append] at this
  omega
 have HF:=aB hF
 have s1:(aE (bA a (u.drop (aH (bV b) (bV a) u)))).size+(aE (bA b (u.take (aH (bV b) (bV a) u)))).size<=98000000:=by rw [aO,aO];omega
 clear hl hG dI gY kX hu hF hcut h1 h2 hne hsz hlen fQ ia ib dU C6
 generalize aH (bV b) (bV a) u=i at *
 generalize bA a (u.drop i)=ra at *
 generalize bA b (u.take i)=rb at *
 go_enter Tryz.func23,Tryz.ntmps23
 go_wp2_with fail
 obtain ⟨w1,dC,hs1,b0,cT⟩:=jL w (jW ⟨126,la,lb,lp,lvw,ldf,ls,lv⟩)
 unfold jW at dC b0
 rw [dC]
 clear dC c1 l0 l1 l2 l3 l4 l5 l6 l7
 refine (aA HP _ cT).mono ?_
 rintro e w2 ⟨rfl,hk2⟩
 have b2:=(hk2.heap (aD b0)).trans b0
 have m1:=aC b2 1
 simp at m1
 have jX:=cT.trans hk2
 clear b0
 go_wp2_with fail
 refine (aA HL _ jX).mono ?_
 rintro e w3 ⟨rfl,hk3⟩
 have b3:=(hk3.heap (aD b2)).trans b2
 have m2:=aC b3 2
 simp at m2
 have vN:=jX.trans hk3
 clear b2 m1
 go_wp2_with fail
 refine (aA HR _ vN).mono ?_
 rintro e w4 ⟨rfl,hk4⟩
 clear m2
 go_wp2
 go_ret
 refine ⟨?_,vN.trans hk4⟩
 rw [aA HF,cU]
 rfl
theorem mL:∀ (c:BT),pQ c->fH c<=800->dD c
 | .pat t,_,_=>SU t
 | .key t v d,_,_=>SV t v d
 | .two kd p a b,h,hz=>by
  have ia:dD a:=mL a h.2.1 (by rw [fH] at hz;omega)
  have ib:dD b:=mL b h.2.2 (by rw [fH] at hz;omega)
  rcases h.1 with rfl | rfl | rfl
  ·exact ST h hz ia ib
  ·exact SW ia ib
  ·exact NM h hz ia ib
 | .star p a,h,hz=>NN h hz (mL a h.2.2 (by rw [fH] at hz;omega))
def InB (w:World) (t:PT) (u:List UInt8) (e:Ending) (w':World):Prop:=∃ z:Bool,e = .returned (.bool z)/\(z=true↔M t u)/\K0 w w'
theorem LK {w:World} {g:Nat} {P:List iD} {L:List lS} {r:Nat} {f:ByteArray} {gp cap gl cl:Nat} {xs:List Value} {c:BT} {u:List UInt8} (hG:GM w g P L r f gp cap gl cl xs) (dI:P.length<=90000) (hc:LN P L c r) (fF:u.length<=1000):
  Calls Tryz.prog 16 #[.pointer (some ⟨g,0,none⟩),.string (aE u)] w fun e w'=>InB w (bS c) u e w':=by
 obtain ⟨x,hx,hx1⟩:=hc.node
 have aY:=(List.getElem?_eq_some_iff.1 hx).1
 have eC:=hG.lt
 have oU:=hG.ll
 have HA:=aB (fun (W:World) (hk:K0 w W)=>gin (d:=aE u) (hG.k0 hk).c0 (hG.k0 hk).pm (by omega) hx1.2.1 hx1.1.2.2.1 (by rw [aO];omega))
 have hai:(r:Int)<(L.length:Int):=by omega
 have c1:=hG.c1
 have c2:=hG.c2
 obtain ⟨_,_,_,_,_,_,x6,_⟩:=hG.eight hx
 have fV:K0 w w.drew:=Kp.drew _ _
 have HAS:Hid (∀ W:World,(K0 w W/\W.cell? ⟨g,1,none⟩=some (.slice (some ⟨gl,0,none⟩) L.length cl)/\W.cell? ⟨g,2,none⟩=some (.int .i64 r)/\W.cell? ⟨gl,r*8+6,none⟩=some (.int .i64 x.s))->Calls Tryz.prog 30 #[.pointer (some ⟨g,0,none⟩),.int .i64 x.s,.string (aE u)] W fun e W'=>(∃ z:Bool,e = .returned (.bool z)/\(z=true↔M (bS c) (aE u).data.toList))/\(K0 w W'/\W'.cell? ⟨g,1,none⟩=some (.slice (some ⟨gl,0,none⟩) L.length cl)/\W'.cell? ⟨g,2,none⟩=some (.int .i64 r)/\W'.cell? ⟨gl,r*8+6,none⟩=some (.int .i64 x.s))):=
  aB (fun W h=>(aA HA W h.1).mono (fun e W' h2=>by
   obtain ⟨z,rfl,hz,hk⟩:=h2
   exact ⟨⟨z,rfl,hz⟩,h.1.trans hk,hk.cell h.2.1,hk.cell h.2.2.1,hk.cell h.2.2.2⟩))
 clear hx hG hx1 dI HA hc
 go_enter Tryz.func16,Tryz.ntmps16
 go_wp2_with fail
 go_region_held3 (fun W=>(K0 w W/\W.cell? ⟨g,1,none⟩=some (.slice (some ⟨gl,0,none⟩) L.length cl)/\W.cell? ⟨g,2,none⟩=some (.int .i64 r)/\W.cell? ⟨gl,r*8+6,none⟩=some (.int .i64 x.s))) (go_keep) (first | (go_at_call 30;refine (aA HAS _ (by assumption)).mono ?_;rintro e w2 ⟨⟨z,rfl,hz⟩,iH⟩))
 go_wp2
 go_ret
 rw [lC] at hz
 exact ⟨z,rfl,hz,iH.1⟩
theorem aBK {w:World} {g:Nat} {P:List iD} {L:List lS} {r:Nat} {f:ByteArray} {gp cap gl cl:Nat} {xs:List Value} {c:BT} {u:List UInt8} (hG:GM w g P L r f gp cap gl cl xs) (dI:P.length<=90000) (hc:LN P L c r) (fF:u.length<=1000):
  Calls Tryz.prog 20 #[.pointer (some ⟨g,0,none⟩),.string (aE u)] w fun e w'=>InB w (bV c) u e w':=by
 obtain ⟨x,hx,hx1⟩:=hc.node
 have aY:=(List.getElem?_eq_some_iff.1 hx).1
 have eC:=hG.lt
 have oU:=hG.ll
 have HA:=aB (fun (W:World) (hk:K0 w W)=>gin (d:=aE u) (hG.k0 hk).c0 (hG.k0 hk).pm (by omega) hx1.2.2 hx1.1.2.2.2 (by rw [aO];omega))
 have hai:(r:Int)<(L.length:Int):=by omega
 have c1:=hG.c1
 have c2:=hG.c2
 obtain ⟨_,_,_,_,_,_,_,x7⟩:=hG.eight hx
 have fV:K0 w w.drew:=Kp.drew _ _
 have HAS:Hid (∀ W:World,(K0 w W/\W.cell? ⟨g,1,none⟩=some (.slice (some ⟨gl,0,none⟩) L.length cl)/\W.cell? ⟨g,2,none⟩=some (.int .i64 r)/\W.cell? ⟨gl,r*8+7,none⟩=some (.int .i64 x.v))->Calls Tryz.prog 30 #[.pointer (some ⟨g,0,none⟩),.int .i64 x.v,.string (aE u)] W fun e W'=>(∃ z:Bool,e = .returned (.bool z)/\(z=true↔M (bV c) (aE u).data.toList))/\(K0 w W'/\W'.cell? ⟨g,1,none⟩=some (.slice (some ⟨gl,0,none⟩) L.length cl)/\W'.cell? ⟨g,2,none⟩=some (.int .i64 r)/\W'.cell? ⟨gl,r*8+7,none⟩=some (.int .i64 x.v))):=
  aB (fun W h=>(aA HA W h.1).mono (fun e W' h2=>by
   obtain ⟨z,rfl,hz,hk⟩:=h2
   exact ⟨⟨z,rfl,hz⟩,h.1.trans hk,hk.cell h.2.1,hk.cell h.2.2.1,hk.cell h.2.2.2⟩))
 clear hx hG hx1 dI HA hc
 go_enter Tryz.func20,Tryz.ntmps20
 go_wp2_with fail
 go_region_held3 (fun W=>(K0 w W/\W.cell? ⟨g,1,none⟩=some (.slice (some ⟨gl,0,none⟩) L.length cl)/\W.cell? ⟨g,2,none⟩=some (.int .i64 r)/\W.cell? ⟨gl,r*8+7,none⟩=some (.int .i64 x.v))) (go_keep) (first | (go_at_call 30;refine (aA HAS _ (by assumption)).mono ?_;rintro e w2 ⟨⟨z,rfl,hz⟩,iH⟩))
 go_wp2
 go_ret
 rw [lC] at hz
 exact ⟨z,rfl,hz,iH.1⟩
end Go.Proofs.YtlljggefbngkeaaGreatDoor
