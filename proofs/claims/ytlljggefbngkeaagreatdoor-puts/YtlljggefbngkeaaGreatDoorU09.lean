import Derived.Test.YtlljggefbngkeaaGreatDoorU08
set_option maxRecDepth 100000
set_option maxHeartbeats 1600000
namespace Go.Proofs.YtlljggefbngkeaaGreatDoor
open Go.RowKit
theorem jI (s:ByteArray) (i j:Nat):aE (fP s.data.toList i j)=s.extract i j:=by
 apply ByteArray.ext
 rw [ByteArray.data_extract]
 apply Array.ext'
 simp only [aE,fP,Array.toList_extract,List.extract_eq_take_drop]
def J5 (Y:Nat->Prop) (b:Nat) (s:ByteArray) (st:St) (e:Ending) (w':World):cN (List UInt8)->Prop
 | .ok v j=>st.i<j/\j<=s.size/\v.length<=120/\e = .returned (.string (aE v))/\RH w' Y b s (st.upTo s j)
 | .err p=>st.i<=p/\p<=s.size/\(∃ x,e = .returned (.string x))/\RH w' Y b s (st.upTo s p).spoil
theorem WG {w:World} {Y:Nat->Prop} {b:Nat} {s:ByteArray} {st:St} {c:Int} (h:RH w Y b s st) (hs:s.size<=120) (hb:st.bad=false) (hi:st.i<=s.size) (hd:st.bd c) (hc:c<=5000):
  Calls Tryz.prog 168 #[.pointer (some ⟨b,0,none⟩)] w fun e w'=>Kp Y w w'/\J5 Y b s st e w' (bN s st.i):=by
 by_cases kR:pk s st.i=34
 ·have hlt:st.i<s.size:=bY (by rw [kR];decide)
  have hse:=tI s (st.i+1) hlt
  have HE:=aB (K1 34 h hs hlt (St.out_le hs hc hi hd) hb kR)
  rw [St.up1 st s hlt] at HE
  have HG:Hid (bN s st.i=if pk s (dL s (st.i+1))=34 then .ok (fP s.data.toList (st.i+1) (dL s (st.i+1))) (dL s (st.i+1)+1) else .err (dL s (st.i+1))):=by
   show bN s st.i=_
   rw [bN,if_pos kR]
  have HD:=aB (And.intro hb hd)
  clear h kR hb hd
  generalize hen:dL s (st.i+1)=en at *
  have Hen:=aB hen
  clear hen
  go_enter Tryz.func168,Tryz.ntmps168
  go_wp2_with fail
  refine (aA HE).mono ?_
  rintro e w1 ⟨rfl,gJ,cO⟩
  have c1:=gJ.c1
  rw [St.upTo_i] at c1
  go_wp2_with fail
  go_loopg [4] (s.size+1) (fun gk okv wv=>∃ j,st.i+1<=j/\j<=s.size/\dL s j=en/\RH wv Y b s (st.upTo s j)/\Kp Y w wv/\((okv = .bool true/\s.size-j<gk)\/(okv = .bool false/\j=en)))
  case atStart=>exact ⟨st.i+1,Nat.le_refl _,hlt,aA Hen,gJ,cO,Or.inl ⟨rfl,by omega⟩⟩
  case round=>
   clear c1
   obtain ⟨j,iS,fR,hje,hR,hK,gG⟩:=hrel
   rcases gG with ⟨rfl,fW⟩ | ⟨rfl,rfl⟩
   ·have HP:=aB (oZ (i:=j) hR hs rfl fR (aA HD).1)
    have HS:=aB (fun (W:World)=>lD (pk s j) W)
    have HJ:=aB (And.intro hje hK)
    clear hje hK
    cases gE:bG (pk s j) with
    | true=>
     have jG:=iY gE
     rw [gE] at HS
     have HSt:=aB (zV s j jG gE)
     clear gE
     generalize pk s j=a at *
     go_wp2_with (first | (go_at_call 58;refine (aA HP).mono ?_;rintro e w2 ⟨rfl,gI,hK2⟩) | (go_at_call 182;refine (aA HS _).mono ?_;rintro e w3 ⟨rfl,rfl⟩))
     refine (oY gI hs jG (St.out_le hs hc fR (St.bd_upTo (aA HD).2 s j (by omega) fR)) (aA HD).1).mono ?_
     rintro e w4 ⟨rfl,jP,hK4⟩
     rw [St.upTo_took st s j (by omega) jG] at jP
     go_wp2_with fail
     go_roundg (gk-1)
     case measure=>omega
     case rel=>exact ⟨j+1,by omega,jG,by rw [← aA HSt];exact (aA HJ).1,jP,((aA HJ).2.trans hK2).trans hK4,Or.inl ⟨rfl,by omega⟩⟩
    | false=>
     rw [gE] at HS
     have HSt:=aB (rZ s j gE)
     clear gE
     generalize pk s j=a at *
     go_wp2_with (first | (go_at_call 58;refine (aA HP).mono ?_;rintro e w2 ⟨rfl,gI,hK2⟩) | (go_at_call 182;refine (aA HS _).mono ?_;rintro e w3 ⟨rfl,rfl⟩))
     go_roundg (gk-1)
     case measure=>omega
     case rel=>exact ⟨j,iS,fR,(aA HJ).1,gI,(aA HJ).2.trans hK2,Or.inr ⟨rfl,by rw [← (aA HJ).1,aA HSt]⟩⟩
   ·have c0:=hR.c0
    have c1:=hR.c1
    have c2:wr.cell? ⟨b,2,none⟩=some (.bool false):=hR.c2.trans (by show some (Value.bool st.bad)=_;rw [(aA HD).1])
    rw [St.upTo_i] at c1
    have hb1:(0:Int)<=(st.i:Int)+1:=by omega
    have hb2:(st.i:Int)+1<=(j:Int):=by omega
    have hb3:(j:Int)<=(s.size:Int):=by omega
    go_wp2_with fail
    go_quiet (fail)
    go_wp2_with fail
    by_cases kR:pk s j=34
    ·have jG:j<s.size:=bY (by rw [kR];decide)
     have PC:=aB (fun n=>K1 34 (hR.drewN n) hs jG (St.out_le hs hc fR (St.bd_upTo (aA HD).2 s j (by omega) fR)) (aA HD).1 kR)
     rw [St.upTo_took st s j (by omega) jG] at PC
     have HG2:=aB (aA HG)
     rw [if_pos kR] at HG2
     refine (aA PC _).mono ?_
     rintro e w5 ⟨rfl,jV,gL⟩
     clear kR
     go_wp2
     go_ret
     refine ⟨(hK.trans (Kp.drewN _ _ _)).trans gL,?_⟩
     rw [aA HG2]
     refine ⟨by omega,jG,?_,?_,jV⟩
     ·rw [fJ _ _ _ (by simpa using fR)];omega
     ·rw [jI];rfl
    ·have PC:=aB (fun n=>tF 34 (hR.drewN n) hs fR (by show cE s j st.bad≠34;rw [(aA HD).1];exact kR))
     have HG2:=aB (aA HG)
     rw [if_neg kR] at HG2
     refine (aA PC _).mono ?_
     rintro e w5 ⟨rfl,jV,gL⟩
     clear kR
     go_wp2
     go_ret
     refine ⟨(hK.trans (Kp.drewN _ _ _)).trans gL,?_⟩
     rw [aA HG2]
     exact ⟨by omega,fR,⟨_,rfl⟩,jV⟩
 ·have HE:=aB (tF 34 h hs hi (by rw [hb];exact kR))
  have HG:Hid (bN s st.i = .err st.i):=by
   show bN s st.i=_
   rw [bN,if_neg kR]
  clear h kR hd
  go_enter Tryz.func168,Tryz.ntmps168
  go_wp2_with fail
  refine (aA HE).mono ?_
  rintro e w1 ⟨rfl,gJ,cO⟩
  have c1:=gJ.c1
  go_wp2_with fail
  go_loopg [4] 2 (fun gk okv wv=>RH wv Y b s st.spoil/\Kp Y w wv/\((okv = .bool true/\0<gk)\/okv = .bool false))
  case atStart=>exact ⟨gJ,cO,Or.inl ⟨rfl,by omega⟩⟩
  case round=>
   clear c1
   obtain ⟨hR,hK,gG⟩:=hrel
   rcases gG with ⟨rfl,fW⟩ | rfl
   ·have HP:=aB (DZ hR hs hi rfl)
    have HS:Hid (∀ W:World,Calls Tryz.prog 182 #[.int .u8 0] W fun e w'=>e = .returned (.bool false)/\w'=W):=fun W=>lD 0 W
    go_wp2_with (first | (go_at_call 58;refine (aA HP).mono ?_;rintro e w2 ⟨rfl,gI,hK2⟩) | (go_at_call 182;refine (aA HS _).mono ?_;rintro e w3 ⟨rfl,rfl⟩))
    go_roundg 0
    case measure=>exact fW
    case rel=>exact ⟨gI,hK.trans hK2,Or.inr rfl⟩
   ·have c2:wr.cell? ⟨b,2,none⟩=some (.bool true):=hR.c2
    go_wp2_with fail
    refine (tF 34 hR hs hi (by simp [St.spoil,cE])).mono ?_
    rintro e w5 ⟨rfl,jV,gL⟩
    go_wp2
    go_ret
    refine ⟨hK.trans gL,?_⟩
    rw [aA HG]
    refine ⟨Nat.le_refl _,hi,⟨_,rfl⟩,?_⟩
    rw [St.upTo_self];exact jV
theorem GB:∀ (L:List lS) (a:Nat) (x:lS) (j:Nat),L[a]? = some x->j<8->(L.flatMap aQ)[a*8+j]? = (aQ x)[j]?
 | [],a,x,j,h,_=>by simp at h
 | y::L,0,x,j,h,hj=>by
  simp at h
  subst h
  rw [List.flatMap_cons,List.getElem?_append_left (by simp [aQ];omega)]
  simp
 | y::L,a+1,x,j,h,hj=>by
  rw [List.flatMap_cons,List.getElem?_append_right (by simp [aQ];omega)]
  have:=GB L a x j (by simpa using h) hj
  rw [← this]
  congr 1
  simp [aQ]
  omega
theorem RH.lens {w:World} {Y:Nat->Prop} {b:Nat} {s:ByteArray} {st:St} (h:RH w Y b s st):st.L=[]\/∃ gl cap,w.cell? ⟨b,6,none⟩=some (.slice (some ⟨gl,0,none⟩) st.L.length cap)/\gl<w.heap.size/\∀ (a:Nat) (x:lS),st.L[a]? = some x->∀ j,j<8->w.cell? ⟨gl,a*8+j,none⟩=(aQ x)[j]? := by
 obtain ⟨pv,lv,xs,h⟩:=h
 rcases h.ownL.2 with ⟨_,h0⟩ | ⟨g,cap,cur,rfl,_⟩
 ·left;exact List.eq_nil_of_length_eq_zero h0
 ·right
  refine ⟨g,cap,by rw [aC h.blk];rfl,aJ h.ownL g rfl,?_⟩
  intro a x hx j hj
  have ha:=(List.getElem?_eq_some_iff.1 hx).1
  rw [World.ownsRow.cellAt h.ownL (a*8+j) (by omega)]
  exact GB st.L a x j hx hj
theorem OY {w:World} {Y:Nat->Prop} {b:Nat} {s:ByteArray} {st:St} (kind:Int) (a c:Nat) (h:RH w Y b s st) (hn:st.P.length<=100000) (hY:∀ k,Y k->k<w.heap.size):
  Calls Tryz.prog 87 #[.pointer (some ⟨b,0,none⟩),.int .u8 kind,.int .i64 a,.int .i64 c] w fun e w'=>e = .returned (.int .i64 st.P.length)/\RH w' Y b s {st with P:=st.P++[⟨kind,⟨#[]⟩,[a,c]⟩]}/\Kp Y w w':=by
 go_enter Tryz.func87,Tryz.ntmps87
 go_wp2_with fail
 refine (AL ⟨kind,⟨#[]⟩,[a,c]⟩ (.slice (some ⟨w.heap.size,0,none⟩) 2 2) (h.alloc _) hn (fun k hk=>by have:=hY k hk;simp;omega) (World.ownsRow_lit w _ 2 (by omega) (by unfold maxLen;omega) rfl) (by intro k e hy;have:=hY k hy;simp [Value.ownBlock] at e;omega)).mono ?_
 rintro e w3 ⟨rfl,eF,hK3⟩
 go_wp2
 go_ret
 exact ⟨rfl,eF,(Kp.alloc _ _ _).trans hK3⟩
def K9 (kind:Int) (x y:lS):iD:=if kind=124 then ⟨97,⟨#[]⟩,[x.s,y.s]⟩ else ⟨115,⟨#[]⟩,[x.s,y.s]⟩
def u6 (kind:Int) (x y:lS):iD:=if kind=124 then ⟨97,⟨#[]⟩,[x.v,y.v]⟩ else if kind=126 then ⟨115,⟨#[]⟩,[y.v,x.v]⟩ else ⟨115,⟨#[]⟩,[x.v,y.v]⟩
def aB4 (Y:Nat->Prop) (w:World) (b:Nat) (s:ByteArray) (st:St) (kind:Int) (a c at_:Nat) (x y:lS) (e:Ending) (w':World):Prop:=
 e = .returned (.int .i64 st.L.length)/\RH w' Y b s {st with P:=st.P++[K9 kind x y]++[u6 kind x y],L:=st.L++[⟨kind,a,c,at_,⟨#[]⟩,⟨#[]⟩,st.P.length,st.P.length+1⟩]}/\Kp Y w w'
theorem Two {w:World} {Y:Nat->Prop} {b:Nat} {s:ByteArray} {st:St} (kind:Int) (aEY:kind=114\/kind=124\/kind=126) (a c at_:Nat) (x y:lS) (h:RH w Y b s st) (hn:st.P.length<=99999) (hl:st.L.length<=100000) (hY:∀ k,Y k->k<w.heap.size) (hx:st.L[a]? = some x) (hy:st.L[c]? = some y):
  Calls Tryz.prog 60 #[.pointer (some ⟨b,0,none⟩),.int .u8 kind,.int .i64 a,.int .i64 c,.int .i64 at_] w fun e w'=>aB4 Y w b s st kind a c at_ x y e w':=by
 have ha:=(List.getElem?_eq_some_iff.1 hx).1
 have dU:=(List.getElem?_eq_some_iff.1 hy).1
 obtain ⟨gl,cap,c6,eC,gR⟩:∃ gl cap,w.cell? ⟨b,6,none⟩=some (.slice (some ⟨gl,0,none⟩) st.L.length cap)/\gl<w.heap.size/\∀ (a:Nat) (x:lS),st.L[a]? = some x->∀ j,j<8->w.cell? ⟨gl,a*8+j,none⟩=(aQ x)[j]? := by
  rcases h.lens with h0 | h0
  ·rw [h0] at ha;simp at ha
  ·exact h0
 have hbl:=h.lt
 have x0:=gR a x hx 0 (by omega)
 have x1:=gR a x hx 1 (by omega)
 have x2:=gR a x hx 2 (by omega)
 have x3:=gR a x hx 3 (by omega)
 have x4:=gR a x hx 4 (by omega)
 have x5:=gR a x hx 5 (by omega)
 have x6:=gR a x hx 6 (by omega)
 have x7:=gR a x hx 7 (by omega)
 have y0:=gR c y hy 0 (by omega)
 have y1:=gR c y hy 1 (by omega)
 have y2:=gR c y hy 2 (by omega)
 have y3:=gR c y hy 3 (by omega)
 have y4:=gR c y hy 4 (by omega)
 have y5:=gR c y hy 5 (by omega)
 have y6:=gR c y hy 6 (by omega)
 have y7:=gR c y hy 7 (by omega)
 simp [aQ] at x0 x1 x2 x3 x4 x5 x6 x7 y0 y1 y2 y3 y4 y5 y6 y7
 clear gR hx hy
 have hai:(a:Int)<(st.L.length:Int):=by omega
 have hci:(c:Int)<(st.L.length:Int):=by omega
 have HH:=aB h
 clear h
 rcases aEY with rfl | rfl | rfl
 ·go_enter Tryz.func60,Tryz.ntmps60
  go_wp2_with fail
  have hR0:=((((aA HH).reY (Z:=fun k=>Y k\/(w.heap.size<=k/\k<w.heap.size+3)) (fun k hk hz=>hz.resolve_right (by omega))).alloc (.cells #[.int .u8 114,.int .i64 a,.int .i64 c,.int .i64 at_,.string ⟨#[]⟩,.string ⟨#[]⟩,.int .i64 0,.int .i64 0] 35)).alloc (.cells (aQ x).toArray 35 (0,0))).alloc (.cells (aQ y).toArray 35 (0,0))
  have vP:∀ k,(Y k\/(w.heap.size<=k/\k<w.heap.size+3))->k<(((w.alloc (.cells #[.int .u8 114,.int .i64 a,.int .i64 c,.int .i64 at_,.string ⟨#[]⟩,.string ⟨#[]⟩,.int .i64 0,.int .i64 0] 35)).alloc (.cells (aQ x).toArray 35 (0,0))).alloc (.cells (aQ y).toArray 35 (0,0))).heap.size:=fun k hk=>by
   rcases hk with hk | hk
   ·have:=hY k hk;simp;omega
   ·simp;omega
  have hl0:(((w.alloc (.cells #[.int .u8 114,.int .i64 a,.int .i64 c,.int .i64 at_,.string ⟨#[]⟩,.string ⟨#[]⟩,.int .i64 0,.int .i64 0] 35)).alloc (.cells (aQ x).toArray 35 (0,0))).alloc (.cells (aQ y).toArray 35 (0,0))).heap[w.heap.size]? = some (.cells #[.int .u8 114,.int .i64 a,.int .i64 c,.int .i64 at_,.string ⟨#[]⟩,.string ⟨#[]⟩,.int .i64 0,.int .i64 0] 35 (0,0)):=heap_alloc_old _ (heap_alloc_old _ (heap_alloc_new w _))
  have hx0:(((w.alloc (.cells #[.int .u8 114,.int .i64 a,.int .i64 c,.int .i64 at_,.string ⟨#[]⟩,.string ⟨#[]⟩,.int .i64 0,.int .i64 0] 35)).alloc (.cells (aQ x).toArray 35 (0,0))).alloc (.cells (aQ y).toArray 35 (0,0))).heap[w.heap.size+1]? = some (.cells (aQ x).toArray 35 (0,0)):=heap_alloc_old _ (bC w _ _)
  have wD:(((w.alloc (.cells #[.int .u8 114,.int .i64 a,.int .i64 c,.int .i64 at_,.string ⟨#[]⟩,.string ⟨#[]⟩,.int .i64 0,.int .i64 0] 35)).alloc (.cells (aQ x).toArray 35 (0,0))).alloc (.cells (aQ y).toArray 35 (0,0))).heap[w.heap.size+2]? = some (.cells (aQ y).toArray 35 (0,0)):=by
   have:=bC (w.alloc (.cells #[.int .u8 114,.int .i64 a,.int .i64 c,.int .i64 at_,.string ⟨#[]⟩,.string ⟨#[]⟩,.int .i64 0,.int .i64 0] 35)) (.cells (aQ x).toArray 35 (0,0)) (.cells (aQ y).toArray 35 (0,0))
   simpa using this
  have hK0:Kp Y w (((w.alloc (.cells #[.int .u8 114,.int .i64 a,.int .i64 c,.int .i64 at_,.string ⟨#[]⟩,.string ⟨#[]⟩,.int .i64 0,.int .i64 0] 35)).alloc (.cells (aQ x).toArray 35 (0,0))).alloc (.cells (aQ y).toArray 35 (0,0))):=((Kp.alloc Y w _).trans (Kp.alloc Y _ _)).trans (Kp.alloc Y _ _)
  refine (OY 115 x.s y.s hR0 (by omega) vP).mono ?_
  rintro e w1 ⟨rfl,gJ,cO⟩
  have l1:=cO.at hl0 (Or.inr (by omega))
  have x1':=cO.at hx0 (Or.inr (by omega))
  have y1':=cO.at wD (Or.inr (by omega))
  have hs1:=cO.size
  simp at hs1
  clear c6 x0 x1 x2 x3 x4 x5 x6 x7 y0 y1 y2 y3 y4 y5 y6 y7 hl0 hx0 wD hR0 vP
  have l6:=aC l1 6
  have lf:=aM l1 6
  have xv:=aC x1' 7
  have yv:=aC y1' 7
  simp [aQ] at l6 xv yv
  go_wp2_with fail
  have hl2:=aK l1 6 (.int .i64 (st.P.length:Int))
  simp at hl2
  have gI:=gJ.grown (aT w1 w.heap.size 6 (.int .i64 (st.P.length:Int))) (by intro k e;cases e;exact Or.inr (by omega))
  have hK2:Kp Y w1 (w1.setCell ⟨w.heap.size,6,none⟩ (.int .i64 (st.P.length:Int))):=Kp.set _ _ _ _ (fun hy=>Nat.lt_irrefl _ (hY _ hy))
  refine (OY 115 x.v y.v gI (by simp;omega) (fun k hk=>by rcases hk with hk | hk;have:=hY k hk;simp [World.setCell];omega;simp [World.setCell];omega)).mono ?_
  rintro e w3 ⟨rfl,eF,hK3⟩
  have l3:=hK3.at hl2 (Or.inr (by omega))
  have hs3:=hK3.size
  simp [World.setCell] at hs3
  clear l6 lf xv yv hl2 l1 x1' y1' gI
  have m7:=aC l3 7
  have mf:=aM l3 7
  simp at m7
  have m0:=aC (aK l3 7 (.int .i64 ((st.P.length+1:Nat):Int))) 0
  have m1:=aC (aK l3 7 (.int .i64 ((st.P.length+1:Nat):Int))) 1
  have m2:=aC (aK l3 7 (.int .i64 ((st.P.length+1:Nat):Int))) 2
  have m3:=aC (aK l3 7 (.int .i64 ((st.P.length+1:Nat):Int))) 3
  have m4:=aC (aK l3 7 (.int .i64 ((st.P.length+1:Nat):Int))) 4
  have m5:=aC (aK l3 7 (.int .i64 ((st.P.length+1:Nat):Int))) 5
  have m6:=aC (aK l3 7 (.int .i64 ((st.P.length+1:Nat):Int))) 6
  have m8:=aC (aK l3 7 (.int .i64 ((st.P.length+1:Nat):Int))) 7
  simp at m0 m1 m2 m3 m4 m5 m6 m8
  go_wp2_with fail
  rw [show ((st.P.length:Int)+1)=((st.P.length+1:Nat):Int) by omega]
  have jP:=(eF.grown (aT w3 w.heap.size 7 (.int .i64 ((st.P.length+1:Nat):Int))) (by intro k e;cases e;exact Or.inr (by omega))).reY (Z:=Y) (fun k _ hy=>Or.inl hy)
  have hK4:Kp Y w3 (w3.setCell ⟨w.heap.size,7,none⟩ (.int .i64 ((st.P.length+1:Nat):Int))):=Kp.set _ _ _ _ (fun hy=>Nat.lt_irrefl _ (hY _ hy))
  refine (Node ⟨114,a,c,at_,⟨#[]⟩,⟨#[]⟩,st.P.length,st.P.length+1⟩ jP hl (fun k hk=>by have:=hY k hk;simp [World.setCell];omega)).mono ?_
  rintro e w5 ⟨rfl,jV,gL⟩
  go_wp2
  go_ret
  exact ⟨rfl,jV,((((hK0.trans (cO.mono (fun k _ hy=>Or.inl hy))).trans hK2).trans (hK3.mono (fun k _ hy=>Or.inl hy))).trans hK4).trans gL⟩
 ·go_enter Tryz.func60,Tryz.ntmps60
  go_wp2_with fail
  have hR0:=((((aA HH).reY (Z:=fun k=>Y k\/(w.heap.size<=k/\k<w.heap.size+3)) (fun k hk hz=>hz.resolve_right (by omega))).alloc (.cells #[.int .u8 124,.int .i64 a,.int .i64 c,.int .i64 at_,.string ⟨#[]⟩,.string ⟨#[]⟩,.int .i64 0,.int .i64 0] 35)).alloc (.cells (aQ x).toArray 35 (0,0))).alloc (.cells (aQ y).toArray 35 (0,0))
  have vP:∀ k,(Y k\/(w.heap.size<=k/\k<w.heap.size+3))->k<(((w.alloc (.cells #[.int .u8 124,.int .i64 a,.int .i64 c,.int .i64 at_,.string ⟨#[]⟩,.string ⟨#[]⟩,.int .i64 0,.int .i64 0] 35)).alloc (.cells (aQ x).toArray 35 (0,0))).alloc (.cells (aQ y).toArray 35 (0,0))).heap.size:=fun k hk=>by
   rcases hk with hk | hk
   ·have:=hY k hk;simp;omega
   ·simp;omega
  have hl0:(((w.alloc (.cells #[.int .u8 124,.int .i64 a,.int .i64 c,.int .i64 at_,.string ⟨#[]⟩,.string ⟨#[]⟩,.int .i64 0,.int .i64 0] 35)).alloc (.cells (aQ x).toArray 35 (0,0))).alloc (.cells (aQ y).toArray 35 (0,0))).heap[w.heap.size]? = some (.cells #[.int .u8 124,.int .i64 a,.int .i64 c,.int .i64 at_,.string ⟨#[]⟩,.string ⟨#[]⟩,.int .i64 0,.int .i64 0] 35 (0,0)):=heap_alloc_old _ (heap_alloc_old _ (heap_alloc_new w _))
  have hx0:(((w.alloc (.cells #[.int .u8 124,.int .i64 a,.int .i64 c,.int .i64 at_,.string ⟨#[]⟩,.string ⟨#[]⟩,.int .i64 0,.int .i64 0] 35)).alloc (.cells (aQ x).toArray 35 (0,0))).alloc (.cells (aQ y).toArray 35 (0,0))).heap[w.heap.size+1]? = some (.cells (aQ x).toArray 35 (0,0)):=heap_alloc_old _ (bC w _ _)
  have wD:(((w.alloc (.cells #[.int .u8 124,.int .i64 a,.int .i64 c,.int .i64 at_,.string ⟨#[]⟩,.string ⟨#[]⟩,.int .i64 0,.int .i64 0] 35)).alloc (.cells (aQ x).toArray 35 (0,0))).alloc (.cells (aQ y).toArray 35 (0,0))).heap[w.heap.size+2]? = some (.cells (aQ y).toArray 35 (0,0)):=by
   have:=bC (w.alloc (.cells #[.int .u8 124,.int .i64 a,.int .i64 c,.int .i64 at_,.string ⟨#[]⟩,.string ⟨#[]⟩,.int .i64 0,.int .i64 0] 35)) (.cells (aQ x).toArray 35 (0,0)) (.cells (aQ y).toArray 35 (0,0))
   simpa using this
  have hK0:Kp Y w (((w.alloc (.cells #[.int .u8 124,.int .i64 a,.int .i64 c,.int .i64 at_,.string ⟨#[]⟩,.string ⟨#[]⟩,.int .i64 0,.int .i64 0] 35)).alloc (.cells (aQ x).toArray 35 (0,0))).alloc (.cells (aQ y).toArray 35 (0,0))):=((Kp.alloc Y w _).trans (Kp.alloc Y _ _)).trans (Kp.alloc Y _ _)
  refine (OY 97 x.s y.s hR0 (by omega) vP).mono ?_
  rintro e w1 ⟨rfl,gJ,cO⟩
  have l1:=cO.at hl0 (Or.inr (by omega))
  have x1':=cO.at hx0 (Or.inr (by omega))
  have y1':=cO.at wD (Or.inr (by omega))
  have hs1:=cO.size
  simp at hs1
  clear c6 x0 x1 x2 x3 x4 x5 x6 x7 y0 y1 y2 y3 y4 y5 y6 y7 hl0 hx0 wD hR0 vP
  have l6:=aC l1 6
  have lf:=aM l1 6
  have xv:=aC x1' 7
  have yv:=aC y1' 7
  simp [aQ] at l6 xv yv
  go_wp2_with fail
  have hl2:=aK l1 6 (.int .i64 (st.P.length:Int))
  simp at hl2
  have gI:=gJ.grown (aT w1 w.heap.size 6 (.int .i64 (st.P.length:Int))) (by intro k e;cases e;exact Or.inr (by omega))
  have hK2:Kp Y w1 (w1.setCell ⟨w.heap.size,6,none⟩ (.int .i64 (st.P.length:Int))):=Kp.set _ _ _ _ (fun hy=>Nat.lt_irrefl _ (hY _ hy))
  refine (OY 97 x.v y.v gI (by simp;omega) (fun k hk=>by rcases hk with hk | hk;have:=hY k hk;simp [World.setCell];omega;simp [World.setCell];omega)).mono ?_
  rintro e w3 ⟨rfl,eF,hK3⟩
  have l3:=hK3.at hl2 (Or.inr (by omega))
  have hs3:=hK3.size
  simp [World.setCell] at hs3
  clear l6 lf xv yv hl2 l1 x1' y1' gI
  have m7:=aC l3 7
  have mf:=aM l3 7
  simp at m7
  have m0:=aC (aK l3 7 (.int .i64 ((st.P.length+1:Nat):Int))) 0
  have m1:=aC (aK l3 7 (.int .i64 ((st.P.length+1:Nat):Int))) 1
  have m2:=aC (aK l3 7 (.int .i64 ((st.P.length+1:Nat):Int))) 2
  have m3:=aC (aK l3 7 (.int .i64 ((st.P.length+1:Nat):Int))) 3
  have m4:=aC (aK l3 7 (.int .i64 ((st.P.length+1:Nat):Int))) 4
  have m5:=aC (aK l3 7 (.int .i64 ((st.P.length+1:Nat):Int))) 5
  have m6:=aC (aK l3 7 (.int .i64 ((st.P.length+1:Nat):Int))) 6
  have m8:=aC (aK l3 7 (.int .i64 ((st.P.length+1:Nat):Int))) 7
  simp at m0 m1 m2 m3 m4 m5 m6 m8
  go_wp2_with fail
  rw [show ((st.P.length:Int)+1)=((st.P.length+1:Nat):Int) by omega]
  have jP:=(eF.grown (aT w3 w.heap.size 7 (.int .i64 ((st.P.length+1:Nat):Int))) (by intro k e;cases e;exact Or.inr (by omega))).reY (Z:=Y) (fun k _ hy=>Or.inl hy)
  have hK4:Kp Y w3 (w3.setCell ⟨w.heap.size,7,none⟩ (.int .i64 ((st.P.length+1:Nat):Int))):=Kp.set _ _ _ _ (fun hy=>Nat.lt_irrefl _ (hY _ hy))
  refine (Node ⟨124,a,c,at_,⟨#[]⟩,⟨#[]⟩,st.P.length,st.P.length+1⟩ jP hl (fun k hk=>by have:=hY k hk;simp [World.setCell];omega)).mono ?_
  rintro e w5 ⟨rfl,jV,gL⟩
  go_wp2
  go_ret
  exact ⟨rfl,jV,((((hK0.trans (cO.mono (fun k _ hy=>Or.inl hy))).trans hK2).trans (hK3.mono (fun k _ hy=>Or.inl hy))).trans hK4).trans gL⟩
 ·go_enter Tryz.func60,Tryz.ntmps60
  go_wp2_with fail
  have hR0:=((((aA HH).reY (Z:=fun k=>Y k\/(w.heap.size<=k/\k<w.heap.size+3)) (fun k hk hz=>hz.resolve_right (by omega))).alloc (.cells #[.int .u8 126,.int .i64 a,.int .i64 c,.int .i64 at_,.string ⟨#[]⟩,.string ⟨#[]⟩,.int .i64 0,.int .i64 0] 35)).alloc (.cells (aQ x).toArray 35 (0,0))).alloc (.cells (aQ y).toArray 35 (0,0))
  have vP:∀ k,(Y k\/(w.heap.size<=k/\k<w.heap.size+3))->k<(((w.alloc (.cells #[.int .u8 126,.int .i64 a,.int .i64 c,.int .i64 at_,.string ⟨#[]⟩,.string ⟨#[]⟩,.int .i64 0,.int .i64 0] 35)).alloc (.cells (aQ x).toArray 35 (0,0))).alloc (.cells (aQ y).toArray 35 (0,0))).heap.size:=fun k hk=>by
   rcases hk with hk | hk
   ·have:=hY k hk;simp;omega
   ·simp;omega
  have hl0:(((w.alloc (.cells #[.int .u8 126,.int .i64 a,.int .i64 c,.int .i64 at_,.string ⟨#[]⟩,.string ⟨#[]⟩,.int .i64 0,.int .i64 0] 35)).alloc (.cells (aQ x).toArray 35 (0,0))).alloc (.cells (aQ y).toArray 35 (0,0))).heap[w.heap.size]? = some (.cells #[.int .u8 126,.int .i64 a,.int .i64 c,.int .i64 at_,.string ⟨#[]⟩,.string ⟨#[]⟩,.int .i64 0,.int .i64 0] 35 (0,0)):=heap_alloc_old _ (heap_alloc_old _ (heap_alloc_new w _))
  have hx0:(((w.alloc (.cells #[.int .u8 126,.int .i64 a,.int .i64 c,.int .i64 at_,.string ⟨#[]⟩,.string ⟨#[]⟩,.int .i64 0,.int .i64 0] 35)).alloc (.cells (aQ x).toArray 35 (0,0))).alloc (.cells (aQ y).toArray 35 (0,0))).heap[w.heap.size+1]? = some (.cells (aQ x).toArray 35 (0,0)):=heap_alloc_old _ (bC w _ _)
  have wD:(((w.alloc (.cells #[.int .u8 126,.int .i64 a,.int .i64 c,.int .i64 at_,.string ⟨#[]⟩,.string ⟨#[]⟩,.int .i64 0,.int .i64 0] 35)).alloc (.cells (aQ x).toArray 35 (0,0))).alloc (.cells (aQ y).toArray 35 (0,0))).heap[w.heap.size+2]? = some (.cells (aQ y).toArray 35 (0,0)):=by
   have:=bC (w.alloc (.cells #[.int .u8 126,.int .i64 a,.int .i64 c,.int .i64 at_,.string ⟨#[]⟩,.string ⟨#[]⟩,.int .i64 0,.int .i64 0] 35)) (.cells (aQ x).toArray 35 (0,0)) (.cells (aQ y).toArray 35 (0,0))
   simpa using this
  have hK0:Kp Y w (((w.alloc (.cells #[.int .u8 126,.int .i64 a,.int .i64 c,.int .i64 at_,.string ⟨#[]⟩,.string ⟨#[]⟩,.int .i64 0,.int .i64 0] 35)).alloc (.cells (aQ x).toArray 35 (0,0))).alloc (.cells (aQ y).toArray 35 (0,0))):=((Kp.alloc Y w _).trans (Kp.alloc Y _ _)).trans (Kp.alloc Y _ _)
  refine (OY 115 x.s y.s hR0 (by omega) vP).mono ?_
  rintro e w1 ⟨rfl,gJ,cO⟩
  have l1:=cO.at hl0 (Or.inr (by omega))
  have x1':=cO.at hx0 (Or.inr (by omega))
  have y1':=cO.at wD (Or.inr (by omega))
  have hs1:=cO.size
  simp at hs1
  clear c6 x0 x1 x2 x3 x4 x5 x6 x7 y0 y1 y2 y3 y4 y5 y6 y7 hl0 hx0 wD hR0 vP
  have l6:=aC l1 6
  have lf:=aM l1 6
  have xv:=aC x1' 7
  have yv:=aC y1' 7
  simp [aQ] at l6 xv yv
  go_wp2_with fail
  have hl2:=aK l1 6 (.int .i64 (st.P.length:Int))
  simp at hl2
  have gI:=gJ.grown (aT w1 w.heap.size 6 (.int .i64 (st.P.length:Int))) (by intro k e;cases e;exact Or.inr (by omega))
  have hK2:Kp Y w1 (w1.setCell ⟨w.heap.size,6,none⟩ (.int .i64 (st.P.length:Int))):=Kp.set _ _ _ _ (fun hy=>Nat.lt_irrefl _ (hY _ hy))
  refine (OY 115 y.v x.v gI (by simp;omega) (fun k hk=>by rcases hk with hk | hk;have:=hY k hk;simp [World.setCell];omega;simp [World.setCell];omega)).mono ?_
  rintro e w3 ⟨rfl,eF,hK3⟩
  have l3:=hK3.at hl2 (Or.inr (by omega))
  have hs3:=hK3.size
  simp [World.setCell] at hs3
  clear l6 lf xv yv hl2 l1 x1' y1' gI
  have m7:=aC l3 7
  have mf:=aM l3 7
  simp at m7
  have m0:=aC (aK l3 7 (.int .i64 ((st.P.length+1:Nat):Int))) 0
  have m1:=aC (aK l3 7 (.int .i64 ((st.P.length+1:Nat):Int))) 1
  have m2:=aC (aK l3 7 (.int .i64 ((st.P.length+1:Nat):Int))) 2
  have m3:=aC (aK l3 7 (.int .i64 ((st.P.length+1:Nat):Int))) 3
  have m4:=aC (aK l3 7 (.int .i64 ((st.P.length+1:Nat):Int))) 4
  have m5:=aC (aK l3 7 (.int .i64 ((st.P.length+1:Nat):Int))) 5
  have m6:=aC (aK l3 7 (.int .i64 ((st.P.length+1:Nat):Int))) 6
  have m8:=aC (aK l3 7 (.int .i64 ((st.P.length+1:Nat):Int))) 7
  simp at m0 m1 m2 m3 m4 m5 m6 m8
  go_wp2_with fail
  rw [show ((st.P.length:Int)+1)=((st.P.length+1:Nat):Int) by omega]
  have jP:=(eF.grown (aT w3 w.heap.size 7 (.int .i64 ((st.P.length+1:Nat):Int))) (by intro k e;cases e;exact Or.inr (by omega))).reY (Z:=Y) (fun k _ hy=>Or.inl hy)
  have hK4:Kp Y w3 (w3.setCell ⟨w.heap.size,7,none⟩ (.int .i64 ((st.P.length+1:Nat):Int))):=Kp.set _ _ _ _ (fun hy=>Nat.lt_irrefl _ (hY _ hy))
  refine (Node ⟨126,a,c,at_,⟨#[]⟩,⟨#[]⟩,st.P.length,st.P.length+1⟩ jP hl (fun k hk=>by have:=hY k hk;simp [World.setCell];omega)).mono ?_
  rintro e w5 ⟨rfl,jV,gL⟩
  go_wp2
  go_ret
  exact ⟨rfl,jV,((((hK0.trans (cO.mono (fun k _ hy=>Or.inl hy))).trans hK2).trans (hK3.mono (fun k _ hy=>Or.inl hy))).trans hK4).trans gL⟩
theorem mI {α:Type} {P Q:List α} {k:Nat} {x:α} (h:P[k]? = some x):(P++Q)[k]? = some x:=by
 rw [List.getElem?_append_left (List.getElem?_eq_some_iff.1 h).1];exact h
mutual
theorem fO {P Q:List iD}:∀ {t:PT} {k:Nat},dJ P t k->dJ (P++Q) t k
 | .chr l,k,h=>by rw [dJ] at *;exact mI h
 | .seq l,k,h=>by
  rw [dJ] at *
  obtain ⟨ks,h1,h2⟩:=h
  exact ⟨ks,mI h1,nW h2⟩
 | .alt l,k,h=>by
  rw [dJ] at *
  rcases h with ⟨ks,h1,h2⟩ | ⟨v,h1,h2,h3⟩
  ·exact .inl ⟨ks,mI h1,nW h2⟩
  ·exact .inr ⟨v,h1,h2,mI h3⟩
 | .rep c t,k,h=>by rw [dJ] at *;obtain ⟨hc,j,h1,h2⟩:=h;exact ⟨hc,j,mI h1,fO h2⟩
theorem nW {P Q:List iD}:∀ {l:List PT} {ks:List Nat},iU P l ks->iU (P++Q) l ks
 | [],[],_=>by rw [iU];trivial
 | t::l,k::ks,h=>by rw [iU] at *;exact ⟨fO h.1,nW h.2⟩
 | [],k::ks,h=>by simp [iU] at h
 | t::l,[],h=>by simp [iU] at h
end
mutual
def aX:PT->Prop
 | .chr _=>True
 | .seq l=>bO l
 | .alt l=>bO l
 | .rep c t=>(c=42\/c=43\/c=63)/\aX t
def bO:List PT->Prop
 | []=>True
 | t::l=>aX t/\bO l
end
mutual
theorem Y9:∀ (t:PT) (P:List iD),∃ Q,(enc t P).2=P++Q
 | .chr l,P=>by rw [enc];exact ⟨_,rfl⟩
 | .seq l,P=>by rw [enc];obtain ⟨Q,h⟩:=xR l P;exact ⟨Q++_,by rw [h,List.append_assoc]⟩
 | .alt l,P=>by rw [enc];obtain ⟨Q,h⟩:=xR l P;exact ⟨Q++_,by rw [h,List.append_assoc]⟩
 | .rep c t,P=>by rw [enc];obtain ⟨Q,h⟩:=Y9 t P;exact ⟨Q++_,by rw [h,List.append_assoc]⟩
theorem xR:∀ (l:List PT) (P:List iD),∃ Q,(bH l P).2=P++Q
 | [],P=>by rw [bH];exact ⟨[],by simp⟩
 | t::l,P=>by
  rw [bH]
  obtain ⟨Q,h⟩:=Y9 t P
  obtain ⟨Q',h'⟩:=xR l (enc t P).2
  exact ⟨Q++Q',by rw [h',h,List.append_assoc]⟩
end
mutual
theorem Y8:∀ (t:PT) (P:List iD),aX t->dJ (enc t P).2 t (enc t P).1
 | .chr l,P,_=>by rw [enc,dJ];simp
 | .seq l,P,h=>by
  rw [enc,dJ]
  exact ⟨(bH l P).1,by simp,nW (I7 l P (by rw [aX] at h;exact h))⟩
 | .alt l,P,h=>by
  rw [enc,dJ]
  exact .inl ⟨(bH l P).1,by simp,nW (I7 l P (by rw [aX] at h;exact h))⟩
 | .rep c t,P,h=>by
  rw [aX] at h
  rw [enc,dJ]
  exact ⟨h.1,(enc t P).1,by simp,fO (Y8 t P h.2)⟩
theorem I7:∀ (l:List PT) (P:List iD),bO l->iU (bH l P).2 l (bH l P).1
 | [],P,_=>by rw [bH,iU];trivial
 | t::l,P,h=>by
  rw [bO] at h
  rw [bH,iU]
  obtain ⟨Q,hQ⟩:=xR l (enc t P).2
  refine ⟨?_,I7 l _ h.2⟩
  rw [hQ]
  exact fO (Y8 t P h.1)
end
theorem vW (s:ByteArray):∀ n i (l0 l:List UInt8) j,cQ s n i l0 = .ok l j->l.length+300*i<=l0.length+300*j/\j<=s.size
 | 0,i,l0,l,j,h=>by rw [cQ] at h;cases h
 | n+1,i,l0,l,j,h=>by
  rw [cQ] at h
  by_cases h1:bG (pk s i)=true
  ·rw [if_pos h1] at h
   have b0:=lE h1
   by_cases h2:pk s (i+1)=45
   ·rw [if_pos h2] at h
    by_cases h3:(bG (pk s (i+2))&&decide (pk s i<=pk s (i+2)))=true
    ·rw [if_pos h3] at h
     simp only [Bool.and_eq_true] at h3
     have b2:=lE h3.1
     have hu:=fA (pk s i).toNat ((pk s (i+2)).toNat+1)
     have hl:(l0++gN (pk s i) (pk s (i+2))).length<=l0.length+256:=by rw [List.length_append];unfold gN;omega
     by_cases h4:pk s (i+3)=93
     ·rw [if_pos h4] at h
      cases h
      have:i+3<s.size:=bY (by rw [h4];decide)
      omega
     ·rw [if_neg h4] at h
      have:=vW s n _ _ _ _ h
      omega
    ·rw [if_neg h3] at h;cases h
   ·rw [if_neg h2] at h
    have hu:=fA (pk s i).toNat ((pk s i).toNat+1)
    have hl:(l0++gN (pk s i) (pk s i)).length<=l0.length+256:=by rw [List.length_append];unfold gN;omega
    by_cases h4:pk s (i+1)=93
    ·rw [if_pos h4] at h
     cases h
     have:i+1<s.size:=bY (by rw [h4];decide)
     omega
    ·rw [if_neg h4] at h
     have:=vW s n _ _ _ _ h
     omega
  ·rw [if_neg h1] at h;cases h
mutual
theorem UZ (s:ByteArray) (hs:s.size<=120):∀ n i (t:PT) j,dX s n i = .ok t j->wf t=true/\cR t=true/\aX t
 | 0,i,t,j,h=>by rw [dX] at h;cases h
 | n+1,i,t,j,h=>by
  rw [dX] at h
  by_cases h1:pk s i=91
  ·rw [if_pos h1] at h
   cases hg:cQ s n (i+1) [] with
   | err p=>rw [hg] at h;cases h
   | ok l k=>
    rw [hg] at h
    cases h
    have:=vW s n _ _ _ _ hg
    simp at this
    exact ⟨by rw [wf];simp;omega,by rw [cR],by rw [aX];trivial⟩
  ·rw [if_neg h1] at h
   by_cases h2:pk s i=40
   ·rw [if_pos h2] at h
    cases hg:cI s n (i+1) with
    | err p=>rw [hg] at h;cases h
    | ok l k=>
     rw [hg] at h
     have hw:=sU s hs n _ _ _ hg
     simp only [cN.bind] at h
     by_cases h3:pk s k=41
     ·rw [if_pos h3] at h
      cases h
      exact ⟨by rw [wf];exact hw.1,by rw [cR],by rw [aX];exact hw.2⟩
     ·rw [if_neg h3] at h;cases h
   ·rw [if_neg h2] at h
    by_cases h3:bG (pk s i)=true
    ·rw [if_pos h3] at h
     cases h
     exact ⟨by rw [wf];rfl,by rw [cR],by rw [aX];trivial⟩
    ·rw [if_neg h3] at h;cases h
theorem G6 (s:ByteArray) (hs:s.size<=120):∀ n i (l:List PT) j,bU s n i = .ok l j->N5 l=true/\bO l
 | 0,i,l,j,h=>by rw [bU] at h;cases h
 | n+1,i,l,j,h=>by
  rw [bU] at h
  by_cases h1:iK (pk s i)=true
  ·rw [if_pos h1] at h
   cases hg:dX s n i with
   | err p=>rw [hg] at h;cases h
   | ok t k=>
    rw [hg] at h
    simp only [cN.bind] at h
    have ht:=UZ s hs n _ _ _ hg
    cases hb:bU s n (gZ s t k).2 with
    | err p=>rw [hb] at h;cases h
    | ok l' k' =>
     rw [hb] at h
     cases h
     have hl:=G6 s hs n _ _ _ hb
     rw [N5,bO]
     unfold gZ
     by_cases hr:pk s k=42\/pk s k=43\/pk s k=63
     ·rw [if_pos hr]
      exact ⟨by rw [wf];simp [ht.1,ht.2.1,hl.1],by rw [aX];exact ⟨hr,ht.2.2⟩,hl.2⟩
     ·rw [if_neg hr]
      exact ⟨by simp [ht.1,hl.1],ht.2.2,hl.2⟩
  ·rw [if_neg h1] at h
   cases h
   rw [N5,bO];exact ⟨rfl,trivial⟩
theorem sU (s:ByteArray) (hs:s.size<=120):∀ n i (l:List PT) j,cI s n i = .ok l j->N5 l=true/\bO l
 | 0,i,l,j,h=>by rw [cI] at h;cases h
 | n+1,i,l,j,h=>by
  rw [cI] at h
  cases hg:bU s n i with
  | err p=>rw [hg] at h;cases h
  | ok br k=>
   rw [hg] at h
   simp only [cN.bind] at h
   have hb:=G6 s hs n _ _ _ hg
   by_cases h1:pk s k=124
   ·rw [if_pos h1] at h
    cases ha:cI s n (k+1) with
    | err p=>rw [ha] at h;cases h
    | ok l' k' =>
     rw [ha] at h
     cases h
     have hl:=sU s hs n _ _ _ ha
     rw [N5,bO,wf,aX]
     exact ⟨by simp [hb.1,hl.1],hb.2,hl.2⟩
   ·rw [if_neg h1] at h
    cases h
    rw [N5,bO,wf,aX,N5,bO]
    exact ⟨by simp [hb.1],hb.2,trivial⟩
end
theorem iA {s:ByteArray} {i j:Nat} {v:List UInt8} (h:bN s i = .ok v j):i<j/\j<=s.size/\v.length<=s.size/\fP s.data.toList i j=34::v++[34]:=by
 unfold bN at h
 by_cases h1:pk s i=34
 ·rw [if_pos h1] at h
  by_cases h2:pk s (dL s (i+1))=34
  ·rw [if_pos h2] at h
   cases h
   have hi:i<s.size:=bY (by rw [h1];decide)
   have he:dL s (i+1)<s.size:=bY (by rw [h2];decide)
   have hb:=tI s (i+1) hi
   have hq:∀ k,pk s k=34->s.data.toList[k]? = some 34:=by
    intro k hk
    have TS:k<s.size:=bY (by rw [hk];decide)
    unfold pk at hk
    rw [dif_pos TS] at hk
    have e:s[k]=34:=UInt8.toNat.inj (by show s[k].toNat=34;omega)
    rw [List.getElem?_eq_getElem (by simpa using TS)]
    exact congrArg some e
   refine ⟨by omega,he,?_,?_⟩
   ·rw [fJ _ _ _ (by simpa using Nat.le_of_lt he)];omega
   ·rw [← jK _ i (i+1) _ (by omega) (by omega),← jK _ (i+1) (dL s (i+1)) _ hb.1 (by omega),T9 _ i 34 (hq i h1),T9 _ _ 34 (hq _ h2)]
    rfl
  ·rw [if_neg h2] at h;cases h
 ·rw [if_neg h1] at h;cases h
theorem RH.k0 {w w':World} {Y:Nat->Prop} {b:Nat} {s:ByteArray} {st:St} (h:RH w Y b s st) (hk:K0 w w'):RH w' Y b s st:=by
 obtain ⟨pv,lv,xs,h⟩:=h
 exact ⟨pv,lv,xs,{
  blk:=(hk.heap (aD h.blk)).trans h.blk
  ownP:=aI h.ownP fun k e=>hk.heap (aJ h.ownP k e)
  ownL:=aI h.ownL fun k e=>hk.heap (aJ h.ownL k e)
  subs:=fun j p hp=>by
   obtain ⟨v,h1,h2,h3,h4,h5⟩:=h.subs j p hp
   exact ⟨v,h1,h2,h3,aI h4 fun k e=>hk.heap (aJ h4 k e),h5⟩
  nb:=h.nb
  np:=h.np
  nl:=h.nl}⟩
theorem RH.pm {w:World} {Y:Nat->Prop} {b:Nat} {s:ByteArray} {st:St} (h:RH w Y b s st) (hP:0<st.P.length):∃ gp cap xs,w.cell? ⟨b,5,none⟩=some (.slice (some ⟨gp,0,none⟩) st.P.length cap)/\PM w gp cap st.P xs:=by
 obtain ⟨pv,lv,xs,h⟩:=h
 obtain ⟨g,cap,rfl,_,_⟩:=h.ownP.form hP
 refine ⟨g,cap,xs,by rw [aC h.blk];rfl,h.ownP,fun j p hp=>?_⟩
 obtain ⟨v,h1,h2,h3,h4,_⟩:=h.subs j p hp
 exact ⟨v,h1,h2,h3,h4,fun _ _ h=>h⟩
theorem OW {w:World} {Y:Nat->Prop} {b:Nat} {s:ByteArray} {st:St} (h:RH w Y b s st) (hs:s.size<=120) (hb:st.bad=true) (hi:st.i<=s.size):
  Calls Tryz.prog 168 #[.pointer (some ⟨b,0,none⟩)] w fun e w'=>(∃ x,e = .returned (.string x))/\RH w' Y b s st/\Kp Y w w':=by
 have hsp:st.spoil=st:=by cases st;simp [St.spoil] at *;exact hb
 have HE:=aB (tF 34 h hs hi (by rw [hb,gC];decide))
 rw [hsp] at HE
 clear h
 go_enter Tryz.func168,Tryz.ntmps168
 go_wp2_with fail
 refine (aA HE).mono ?_
 rintro e w1 ⟨rfl,gJ,cO⟩
 have c1:=gJ.c1
 go_wp2_with fail
 go_loopg [4] 2 (fun gk okv wv=>RH wv Y b s st/\Kp Y w wv/\((okv = .bool true/\0<gk)\/okv = .bool false))
 case atStart=>exact ⟨gJ,cO,Or.inl ⟨rfl,by omega⟩⟩
 case round=>
  clear c1
  obtain ⟨hR,hK,gG⟩:=hrel
  rcases gG with ⟨rfl,fW⟩ | rfl
  ·have HP:=aB (DZ hR hs hi hb)
   have HS:Hid (∀ W:World,Calls Tryz.prog 182 #[.int .u8 0] W fun e w'=>e = .returned (.bool false)/\w'=W):=fun W=>lD 0 W
   clear hsp
   go_wp2_with (first | (go_at_call 58;refine (aA HP).mono ?_;rintro e w2 ⟨rfl,gI,hK2⟩) | (go_at_call 182;refine (aA HS _).mono ?_;rintro e w3 ⟨rfl,rfl⟩))
   go_roundg 0
   case measure=>exact fW
   case rel=>exact ⟨gI,hK.trans hK2,Or.inr rfl⟩
  ·have c2:wr.cell? ⟨b,2,none⟩=some (.bool true):=hR.c2.trans (by rw [hb])
   have Hsp:=aB hsp
   clear hsp
   go_wp2_with fail
   refine (tF 34 hR hs hi (by rw [hb,gC];decide)).mono ?_
   rintro e w5 ⟨rfl,jV,gL⟩
   rw [aA Hsp] at jV
   go_wp2
   go_ret
   exact ⟨⟨_,rfl⟩,jV,hK.trans gL⟩
inductive BT where
 | pat (t:PT)
 | key (t:PT) (v d:List UInt8)
 | two (kd:Int) (at_:Nat) (a b:BT)
 | star (at_:Nat) (a:BT)
def bS:BT->PT
 | .pat t=>t
 | .key t _ _=>t
 | .two kd _ a b=>if kd=124 then .alt [bS a,bS b] else .seq [bS a,bS b]
 | .star _ a => .rep 42 (bS a)
def bV:BT->PT
 | .pat t=>t
 | .key _ v _ => .alt [.seq (v.map fun c => .chr [c])]
 | .two kd _ a b=>if kd=124 then .alt [bV a,bV b] else if kd=126 then .seq [bV b,bV a] else .seq [bV a,bV b]
 | .star _ a => .rep 42 (bV a)
def eD:BT->List BT
 | .pat t=>[.pat t]
 | .key t v d=>[.key t v d]
 | .two kd p a b => .two kd p a b::(eD a++eD b)
 | .star p a => .star p a::eD a
theorem kT (b:BT):b∈eD b:=by cases b <;> simp [eD]
def bw (b:BT):Prop:=cR (bS b)=true/\cR (bV b)=true/\wf (bS b)=true/\wf (bV b)=true
theorem AR:∀ v:List UInt8,N5 (v.map fun c=>PT.chr [c])=true
 | []=>by rw [List.map_nil,N5]
 | c::v=>by rw [List.map_cons,N5,AR v,wf];simp
theorem aDB {t:PT} (h1:cR t=true) (h2:wf t=true):bw (.pat t):=⟨h1,h1,h2,h2⟩
theorem aDC {t:PT} (h1:cR t=true) (h2:wf t=true) (v d:List UInt8):bw (.key t v d):=⟨h1,by rw [bV,cR],h2,by rw [bV,wf,N5,N5,wf,AR];rfl⟩
theorem aDA {a b:BT} (ha:bw a) (hb:bw b) (kd:Int) (p:Nat):bw (.two kd p a b):=by
 obtain ⟨a1,a2,a3,a4⟩:=ha
 obtain ⟨b1,b2,b3,b4⟩:=hb
 refine ⟨?_,?_,?_,?_⟩
 ·rw [bS];split <;> simp [cR,qL,a1]
 ·rw [bV];split
  ·simp [cR]
  ·split <;> simp [cR,qL,a2,b2]
 ·rw [bS];split <;> simp [wf,N5,a3,b3]
 ·rw [bV];split
  ·simp [wf,N5,a4,b4]
  ·split <;> simp [wf,N5,a4,b4]
theorem aB0 {a:BT} (ha:bw a) (p:Nat):bw (.star p a):=by
 obtain ⟨a1,a2,a3,a4⟩:=ha
 refine ⟨?_,?_,?_,?_⟩ <;> simp [bS,bV,cR,wf,a1,a2,a3,a4]
def LN1 (P:List iD) (b:BT) (l:lS):Prop:=bw b/\dJ P (bS b) l.s/\dJ P (bV b) l.v
theorem LN1.mono {P Q:List iD} {b:BT} {l:lS} (h:LN1 P b l):LN1 (P++Q) b l:=⟨h.1,fO h.2.1,fO h.2.2⟩
def LN (P:List iD) (L:List lS):BT->Nat->Prop
 | .pat t,k=>∃ l,L[k]? = some l/\LN1 P (.pat t) l/\l.kind=112
 | .key t v d,k=>∃ l,L[k]? = some l/\LN1 P (.key t v d) l/\l.kind=107/\l.view=aE v/\l.dflt=aE d/\v.length<=120/\d.length<=120
 | .two kd p a b,k=>∃ l,L[k]? = some l/\LN1 P (.two kd p a b) l/\l.kind=kd/\(kd=114\/kd=124\/kd=126)/\l.at_=p/\LN P L a l.a/\LN P L b l.b
 | .star p a,k=>∃ l,L[k]? = some l/\LN1 P (.star p a) l/\l.kind=42/\l.at_=p/\LN P L a l.a
theorem LN.mono {P Q:List iD} {L R:List lS}:∀ {b:BT} {k:Nat},LN P L b k->LN (P++Q) (L++R) b k
 | .pat t,k,h=>by
  obtain ⟨l,h1,h2,h3⟩:=h
  exact ⟨l,mI h1,h2.mono,h3⟩
 | .key t v d,k,h=>by
  obtain ⟨l,h1,h2,h3⟩:=h
  exact ⟨l,mI h1,h2.mono,h3⟩
 | .two kd p a b,k,h=>by
  obtain ⟨l,h1,h2,h3,h4,h5,h6,h7⟩:=h
  exact ⟨l,mI h1,h2.mono,h3,h4,h5,LN.mono h6,LN.mono h7⟩
 | .star p a,k,h=>by
  obtain ⟨l,h1,h2,h3,h4,h5⟩:=h
  exact ⟨l,mI h1,h2.mono,h3,h4,LN.mono h5⟩
theorem LN.node {P:List iD} {L:List lS} {b:BT} {k:Nat} (h:LN P L b k):∃ l,L[k]? = some l/\LN1 P b l:=by
 cases b <;> obtain ⟨l,h1,h2,_⟩:=h <;> exact ⟨l,h1,h2⟩
def kA (P:List iD) (L:List lS) (P':List iD) (L':List lS) (k:Nat) (b:BT):Prop:=
 (∃ Q,P'=P++Q)/\(∃ R,L'=L++R)/\LN P' L' b k/\∀ j,L.length<=j->j<L'.length->∃ c,c∈eD b/\LN P' L' c j
theorem Z7 (L:List lS) (l:lS):(L++[l])[L.length]? = some l:=by simp
theorem kA.leaf {P Q:List iD} {L:List lS} {l:lS} {b:BT} (h:LN (P++Q) (L++[l]) b L.length):kA P L (P++Q) (L++[l]) L.length b:=by
 refine ⟨⟨Q,rfl⟩,⟨[l],rfl⟩,h,fun j h1 h2=>?_⟩
 rw [List.length_append,List.length_singleton] at h2
 obtain rfl:j=L.length:=by omega
 exact ⟨b,kT b,h⟩
theorem kA.pat {P PP:List iD} {L:List lS} {kk:Nat} {t:PT} (hQ:∃ Q,PP=P++Q) (hr:dJ PP t kk) (hf:cR t=true) (hw:wf t=true):
  kA P L PP (L++[⟨112,0,0,0,⟨#[]⟩,⟨#[]⟩,kk,kk⟩]) L.length (.pat t):=by
 obtain ⟨Q,rfl⟩:=hQ
 exact kA.leaf ⟨_,Z7 _ _,⟨aDB hf hw,hr,hr⟩,rfl⟩
theorem kA.key {P PP:List iD} {L:List lS} {kk:Nat} {t:PT} {v d:List UInt8} (hQ:∃ Q,PP=P++Q) (hr:dJ PP t kk) (hf:cR t=true) (hw:wf t=true) (hv:v.length<=120) (hd:d.length<=120):
  kA P L (PP++[⟨116,aE v,[]⟩]) (L++[⟨107,0,0,0,aE v,aE d,kk,PP.length⟩]) L.length (.key t v d):=by
 obtain ⟨Q,rfl⟩:=hQ
 rw [List.append_assoc]
 refine kA.leaf ⟨_,Z7 _ _,⟨aDC hf hw v d,?_,?_⟩,rfl,rfl,rfl,hv,hd⟩
 ·rw [← List.append_assoc];exact fO hr
 ·show dJ _ (bV (.key t v d)) ((P++Q).length)
  rw [bV,dJ,← List.append_assoc]
  exact .inr ⟨v,hv,rfl,by simp⟩
theorem kA.lift {P P1 P2:List iD} {L L1 L2:List lS} {k:Nat} {b:BT} (h:kA P L P1 L1 k b) (hQ:∃ Q,P2=P1++Q) (hR:∃ R,L2=L1++R):
  (∃ Q,P2=P++Q)/\(∃ R,L2=L++R)/\LN P2 L2 b k/\∀ j,L.length<=j->j<L1.length->∃ c,c∈eD b/\LN P2 L2 c j:=by
 obtain ⟨⟨Q1,e1⟩,⟨R1,e2⟩,h3,h4⟩:=h
 obtain ⟨Q,rfl⟩:=hQ
 obtain ⟨R,rfl⟩:=hR
 refine ⟨⟨Q1++Q,by rw [e1,List.append_assoc]⟩,⟨R1++R,by rw [e2,List.append_assoc]⟩,h3.mono,fun j q1 q2=>?_⟩
 obtain ⟨c,hc,hl⟩:=h4 j q1 q2
 exact ⟨c,hc,hl.mono⟩
theorem kA.two {P P1 P2:List iD} {L L1 L2:List lS} {ka kb:Nat} {a b:BT} {x y:lS} {kd:Int} (fV:kd=114\/kd=124\/kd=126) (p:Nat) (ha:kA P L P1 L1 ka a) (hb:kA P1 L1 P2 L2 kb b) (hx:L2[ka]? = some x) (hy:L2[kb]? = some y):
  kA P L (P2++[K9 kd x y]++[u6 kd x y]) (L2++[⟨kd,ka,kb,p,⟨#[]⟩,⟨#[]⟩,P2.length,P2.length+1⟩]) L2.length (.two kd p a b):=by
 obtain ⟨a1,a2,a3,a4⟩:=ha.lift hb.1 hb.2.1
 have b3:=hb.2.2.1
 have b4:=hb.2.2.2
 have wF:L1.length<=L2.length:=by obtain ⟨R,e⟩:=hb.2.1;rw [e];simp
 obtain ⟨xl,hx1,hx2⟩:=a3.node
 obtain ⟨yl,nL,xX⟩:=b3.node
 obtain rfl:xl=x:=by rw [hx1] at hx;exact Option.some.inj hx
 obtain rfl:yl=y:=by rw [nL] at hy;exact Option.some.inj hy
 have hs0:(P2++[K9 kd xl yl]++[u6 kd xl yl])[P2.length]? = some (K9 kd xl yl):=by simp
 have hv0:(P2++[K9 kd xl yl]++[u6 kd xl yl])[P2.length+1]? = some (u6 kd xl yl):=by simp
 have up:∀ {t k},dJ P2 t k->dJ (P2++[K9 kd xl yl]++[u6 kd xl yl]) t k:=fun h=>by rw [List.append_assoc];exact fO h
 have CO:LN (P2++[K9 kd xl yl]++[u6 kd xl yl]) (L2++[⟨kd,ka,kb,p,⟨#[]⟩,⟨#[]⟩,P2.length,P2.length+1⟩]) (.two kd p a b) L2.length:=by
  refine ⟨_,Z7 _ _,⟨aDA hx2.1 xX.1 kd p,?_,?_⟩,rfl,fV,rfl,?_,?_⟩
  ·show dJ _ (bS (.two kd p a b)) P2.length
   rw [bS]
   split
   ·rename_i e
    rw [dJ]
    refine .inl ⟨[xl.s,yl.s],by rw [hs0,K9,if_pos e],?_⟩
    simp only [iU]
    exact ⟨up hx2.2.1,up xX.2.1,trivial⟩
   ·rename_i e
    rw [dJ]
    refine ⟨[xl.s,yl.s],by rw [hs0,K9,if_neg e],?_⟩
    simp only [iU]
    exact ⟨up hx2.2.1,up xX.2.1,trivial⟩
  ·show dJ _ (bV (.two kd p a b)) (P2.length+1)
   rw [bV]
   split
   ·rename_i e
    rw [dJ]
    refine .inl ⟨[xl.v,yl.v],by rw [hv0,u6,if_pos e],?_⟩
    simp only [iU]
    exact ⟨up hx2.2.2,up xX.2.2,trivial⟩
   ·rename_i e
    split
    ·rename_i e2
     rw [dJ]
     refine ⟨[yl.v,xl.v],by rw [hv0,u6,if_neg e,if_pos e2],?_⟩
     simp only [iU]
     exact ⟨up xX.2.2,up hx2.2.2,trivial⟩
    ·rename_i e2
     rw [dJ]
     refine ⟨[xl.v,yl.v],by rw [hv0,u6,if_neg e,if_neg e2],?_⟩
     simp only [iU]
     exact ⟨up hx2.2.2,up xX.2.2,trivial⟩
  ·rw [List.append_assoc];exact a3.mono
  ·rw [List.append_assoc];exact b3.mono
 refine ⟨?_,?_,CO,fun j h1 h2=>?_⟩
 ·obtain ⟨Q,e⟩:=a1;exact ⟨Q++[K9 kd xl yl]++[u6 kd xl yl],by rw [e];simp⟩
 ·obtain ⟨R,e⟩:=a2;exact ⟨R++[⟨kd,ka,kb,p,⟨#[]⟩,⟨#[]⟩,P2.length,P2.length+1⟩],by rw [e];simp⟩
 ·rw [List.length_append,List.length_singleton] at h2
  rcases Nat.lt_or_ge j L1.length with q | q
  ·obtain ⟨c,hc,hl⟩:=a4 j h1 q
   exact ⟨c,by rw [eD];exact List.mem_cons_of_mem _ (List.mem_append_left _ hc),by rw [List.append_assoc];exact hl.mono⟩
  ·rcases Nat.lt_or_ge j L2.length with q2 | q2
   ·obtain ⟨c,hc,hl⟩:=b4 j q q2
    exact ⟨c,by rw [eD];exact List.mem_cons_of_mem _ (List.mem_append_right _ hc),by rw [List.append_assoc];exact hl.mono⟩
   ·obtain rfl:j=L2.length:=by omega
    exact ⟨_,kT _,CO⟩
theorem kA.star {P P1:List iD} {L L1:List lS} {k:Nat} {a:BT} (p:Nat) (ha:kA P L P1 L1 k a) {x:lS} (hx:L1[k]? = some x):
  kA P L (P1++[⟨42,⟨#[]⟩,[x.s]⟩]++[⟨42,⟨#[]⟩,[x.v]⟩]) (L1++[⟨42,k,0,p,⟨#[]⟩,⟨#[]⟩,P1.length,P1.length+1⟩]) L1.length (.star p a):=by
 obtain ⟨a1,a2,a3,a4⟩:=ha
 obtain ⟨xl,hx1,hx2⟩:=a3.node
 obtain rfl:xl=x:=by rw [hx1] at hx;exact Option.some.inj hx
 have up:∀ {t k},dJ P1 t k->dJ (P1++[⟨42,⟨#[]⟩,[xl.s]⟩]++[⟨42,⟨#[]⟩,[xl.v]⟩]) t k:=fun h=>by rw [List.append_assoc];exact fO h
 have CO:LN (P1++[⟨42,⟨#[]⟩,[xl.s]⟩]++[⟨42,⟨#[]⟩,[xl.v]⟩]) (L1++[⟨42,k,0,p,⟨#[]⟩,⟨#[]⟩,P1.length,P1.length+1⟩]) (.star p a) L1.length:=by
  refine ⟨_,Z7 _ _,⟨aB0 hx2.1 p,?_,?_⟩,rfl,rfl,?_⟩
  ·show dJ _ (bS (.star p a)) P1.length
   rw [bS,dJ]
   exact ⟨.inl rfl,xl.s,by simp,up hx2.2.1⟩
  ·show dJ _ (bV (.star p a)) (P1.length+1)
   rw [bV,dJ]
   exact ⟨.inl rfl,xl.v,by simp,up hx2.2.2⟩
  ·rw [List.append_assoc];exact a3.mono
 refine ⟨?_,?_,CO,fun j h1 h2=>?_⟩
 ·obtain ⟨Q,e⟩:=a1;exact ⟨Q++[⟨42,⟨#[]⟩,[xl.s]⟩]++[⟨42,⟨#[]⟩,[xl.v]⟩],by rw [e];simp⟩
 ·obtain ⟨R,e⟩:=a2;exact ⟨R++[⟨42,k,0,p,⟨#[]⟩,⟨#[]⟩,P1.length,P1.length+1⟩],by rw [e];simp⟩
 ·rw [List.length_append,List.length_singleton] at h2
  rcases Nat.lt_or_ge j L1.length with q | q
  ·obtain ⟨c,hc,hl⟩:=a4 j h1 q
   exact ⟨c,by rw [eD];exact List.mem_cons_of_mem _ hc,by rw [List.append_assoc];exact hl.mono⟩
  ·obtain rfl:j=L1.length:=by omega
   exact ⟨_,kT _,CO⟩
mutual
def bP:LT->BT
 | .same l _ _ => .pat (.alt l)
 | .fixed l _ _ v d _ => .key (.alt l) v d
 | .swap p a b => .two 126 p (bP a) (bP b)
 | .group a=>bP a
 | .many p a => .star p (bP a)
 | .row l ps=>cX 114 l ps
 | .choice l ps=>cX 124 l ps
def cX (kd:Int):List LT->List Nat->BT
 | [],_ => .pat (.seq [])
 | t::l,ps=>eH kd (bP t) l ps
def eH (kd:Int):BT->List LT->List Nat->BT
 | c,[],_=>c
 | c,t::l,ps=>eH kd (.two kd (ps.headD 0) c (bP t)) l ps.tail
end
theorem O5 (kd:Int) (t:LT) (j:Nat):∀ (l:List LT) (c:BT) (ps:List Nat),ps.length=l.length->eH kd c (l++[t]) (ps++[j]) = .two kd j (eH kd c l ps) (bP t)
 | [],c,ps,h=>by
  obtain rfl:ps=[]:=List.eq_nil_of_length_eq_zero h
  simp [eH]
 | u::l,c,ps,h=>by
  match ps,h with
  | p::ps,h=>
   rw [List.cons_append,List.cons_append,eH,eH]
   exact O5 kd t j l _ ps (by simpa using h)
theorem tL (kd:Int) (t:LT) (j:Nat) (l:List LT) (ps:List Nat) (h:ps.length+1=l.length):cX kd (l++[t]) (ps++[j]) = .two kd j (cX kd l ps) (bP t):=by
 match l,h with
 | u::l,h=>rw [List.cons_append,cX,cX];exact O5 kd t j l _ ps (by simpa using h)
theorem nA (kd:Int) (t:LT) (ps:List Nat):cX kd [t] ps=bP t:=by rw [cX,eH]
theorem oE:∀ (l:List LT) (ps:List Nat),bP (joinAlt l ps)=cX 124 l ps
 | [],ps=>by rw [joinAlt,bP] <;> simp
 | [t],ps=>by rw [joinAlt,nA]
 | t::u::l,ps=>by rw [joinAlt,bP];simp
theorem zT:∀ (l:List LT) (ps:List Nat),bP (joinRow l ps)=cX 114 l ps
 | [],ps=>by rw [joinRow,bP] <;> simp
 | [t],ps=>by rw [joinRow,nA]
 | t::u::l,ps=>by rw [joinRow,bP];simp
def aE9 (sep:List UInt8):Int:=if sep.length=1 then 114 else 124
end Go.Proofs.YtlljggefbngkeaaGreatDoor
