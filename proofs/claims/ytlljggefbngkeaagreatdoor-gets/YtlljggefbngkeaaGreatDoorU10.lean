import Derived.Test.YtlljggefbngkeaaGreatDoorU09
set_option maxRecDepth 100000
set_option maxHeartbeats 3200000
namespace Go.Proofs.YtlljggefbngkeaaGreatDoor
open Go.RowKit
def aBQ (Y:Nat->Prop) (b:Nat) (s:ByteArray) (st:St) (c:Int) (e:Ending) (w':World) (f:List UInt8) (x:List (List PT×List UInt8×Nat)) (j:Nat) (bt:BT):Prop:=
 ∃ (k:Nat) (st':St),e = .returned (.int .i64 k)/\k<st'.L.length/\st.L.length<=st'.L.length/\RH w' Y b s st'/\st'.i=j/\st'.bad=false/\st'.out=st.out++aE f/\rD st.wn st'.wn x/\-1<=st'.wn/\st'.wn<j/\st'.bd (c-10)/\kA st.P st.L st'.P st'.L k bt
def MD (Y:Nat->Prop) (b:Nat) (s:ByteArray) (st:St) (c d:Int) (e:Ending) (w':World):cN LT->Prop
 | .ok t j=>st.i<j/\j<=s.size/\aBQ Y b s st c e w' (form s t) (eX t) j (bP t)
 | .err p=>(∃ k:Nat,e = .returned (.int .i64 k))/\dH w' Y b s p (c+d)/\st.i<=p
theorem qQ {w:World} {Y:Nat->Prop} {b:Nat} {s:ByteArray} {st:St} (h:RH w Y b s st) (hs:s.size<=120) (hi:st.i<=s.size) (eb:st.bad=false):
  Calls Tryz.prog 56 #[.pointer (some ⟨b,0,none⟩)] w fun e w'=>e = .returned (.tuple #[])/\RH w' Y b s {st with i:=aF s st.i}/\Kp Y w w':=by
 have:=WV h hs hi
 rw [St.skip_ok st s eb] at this
 exact this
theorem AJ {w:World} {Y:Nat->Prop} {b:Nat} {s:ByteArray} {st:St} (h:RH w Y b s st) (hs:s.size<=120) (hi:st.i<=s.size) (eb:st.bad=true):
  Calls Tryz.prog 56 #[.pointer (some ⟨b,0,none⟩)] w fun e w'=>e = .returned (.tuple #[])/\RH w' Y b s st/\Kp Y w w':=by
 have:=WV h hs hi
 rw [St.skip_bad st s eb] at this
 exact this
theorem St.bd_wn {st:St} {c:Int} (hd:st.bd c) (n:Int):St.bd {st with wn:=n} c:=hd
theorem cU (a c:List UInt8):aE (a++c)=aE a++aE c:=by
 apply ByteArray.ext;simp [aE,ByteArray.data_append]
theorem zF (out s:ByteArray) (i j k k1 k2 m:Nat) (l:List PT) (v dd:List UInt8) (at_:Nat) (h1:fP s.data.toList k k1=34::v++[34]) (h2:fP s.data.toList k2 m=34::dd++[34]):
  out++s.extract i j++s.extract k k1++s.extract k2 m=out++aE (form s (.fixed l i j v dd at_)):=by
 rw [← jI s i j,← jI s k k1,← jI s k2 m,h1,h2,form]
 rw [ByteArray.append_assoc,ByteArray.append_assoc,← cU,← cU]
 congr 2
 simp
theorem St.bd_node {st:St} {c d:Int} (hd:st.bd c) (l:lS) (hcd:c+1<=d):St.bd {st with L:=st.L++[l]} d:=by
 unfold St.bd at *
 simp
 omega
theorem St.bd_i {st:St} {c:Int} (hd:st.bd c) (i:Nat) (hi:st.i<=i):St.bd {st with i:=i} c:=by
 unfold St.bd at *
 simp
 omega
theorem St.spoil_bad (st:St) (h:st.bad=true):st.spoil=st:=by cases st;simp [St.spoil] at *;exact h
theorem aG8 {w:World} {Y:Nat->Prop} {b:Nat} {s:ByteArray} {st:St} {c:Int} (h:RH w Y b s st) (hs:s.size<=120) (hb:st.bad=false) (hi:st.i<=s.size) (hd:st.bd c) (hc:c<=4000) (hY:∀ k,Y k->k<w.heap.size) (hw : -1<=st.wn/\st.wn<st.i) (rO:pk s st.i=47):
  Calls Tryz.prog 154 #[.pointer (some ⟨b,0,none⟩)] w fun e w'=>Kp Y w w'/\MD Y b s st c 12 e w' (eY s (4*s.size+4) st.i):=by
 have hlt:st.i<s.size:=bY (by rw [rO];decide)
 have HE:=aB (K1 47 h hs hlt (St.out_le hs (by omega) hi hd) hb rO)
 rw [St.up1 st s hlt] at HE
 have HD:=aB (And.intro hb (And.intro hd hw))
 clear h hb hd hw rO
 go_enter Tryz.func154,Tryz.ntmps154
 go_wp2_with fail
 refine (aA HE).mono ?_
 rintro e w1 ⟨rfl,gJ,cO⟩
 have yA:∀ k,Y k->k<w1.heap.size:=fun k hk=>by have:=hY k hk;have:=cO.size;omega
 go_wp2_with fail
 refine (WI gJ hs (aA HD).1 hlt (St.bd_up (aA HD).2.1 s (st.i+1) (by omega) hlt) (by omega) yA (4*s.size+4) (by rw [St.upTo_i];omega)).mono ?_
 rintro e w2 ⟨hK2,fN⟩
 have vU:=cO.trans hK2
 rw [St.upTo_i] at fN
 have aAD:(∃ p,eY s (4*s.size+4) st.i = .err p/\st.i<=p/\p<=s.size/\(∃ k:Nat,e = .returned (.int .i64 k))/\∃ st',RH w2 Y b s st'/\st'.i=p/\cE s st'.i st'.bad≠47/\st'.bd (c-9))\/(∃ l j,cI s (4*s.size+4) (st.i+1) = .ok l j/\pk s j=47/\st.i<j/\j<s.size/\e = .returned (.int .i64 (enc (.alt l) st.P).1)/\RH w2 Y b s {st.upTo s j with P:=(enc (.alt l) st.P).2}/\St.bd {st.upTo s j with P:=(enc (.alt l) st.P).2} (c-9)):=by
  cases hg:cI s (4*s.size+4) (st.i+1) with
  | err p=>
   rw [hg] at fN
   obtain ⟨hk,⟨st',hR,pL,xJ,V8,fQ⟩,hp⟩:=fN
   rw [St.upTo_i] at hp
   exact Or.inl ⟨p,by rw [eY,hg];rfl,by omega,V8,hk,st',hR,xJ,by rw [pL,gC];decide,St.bd_mono fQ (by omega)⟩
  | ok l j=>
   rw [hg] at fN
   obtain ⟨iS,fR,fN⟩:=fN
   rw [St.upTo_i] at fR
   by_cases hj:pk s j=47
   ·rw [if_pos (by rw [hj];rfl)] at fN
    obtain ⟨he,hR,fQ⟩:=fN
    rw [St.upTo_upTo st s (st.i+1) j (by omega) (by omega) iS] at hR fQ
    exact Or.inr ⟨l,j,rfl,hj,by omega,bY (by rw [hj];decide),he,hR,St.bd_mono fQ (by omega)⟩
   ·left
    refine ⟨j,by rw [eY,hg];simp only [cN.bind];rw [if_neg hj],by omega,iS,?_⟩
    by_cases hst:x8 (pk s j)=true
    ·rw [if_pos hst] at fN
     obtain ⟨he,hR,fQ⟩:=fN
     exact ⟨⟨_,he⟩,_,hR,rfl,by show cE s j st.bad≠47;rw [(aA HD).1];exact hj,St.bd_mono fQ (by omega)⟩
    ·rw [if_neg hst] at fN
     obtain ⟨hk,st',hR,pL,xJ,V8,fQ⟩:=fN
     exact ⟨hk,st',hR,xJ,by rw [pL,gC];decide,St.bd_mono fQ (by omega)⟩
 clear fN
 rcases aAD with ⟨p,hgp,eI,eG,⟨k,rfl⟩,st',gI,xJ,C7,fQ⟩ | ⟨l,j,hg,aCK,kD,jY,rfl,gI,fQ⟩
 ·have PC:=aB (tF 47 gI hs (by rw [xJ];exact eG) C7)
  have HB:=aB (And.intro hgp (And.intro xJ fQ))
  clear hgp xJ fQ C7
  go_wp2_with fail
  refine (aA PC).mono ?_
  rintro e w3 ⟨rfl,eF,hK3⟩
  go_wp2_with fail
  refine (AJ eF hs (by show st'.i<=_;rw [(aA HB).2.1];exact eG) rfl).mono ?_
  rintro e w4 ⟨rfl,jP,hK4⟩
  have c2:w4.cell? ⟨b,2,none⟩=some (.bool true):=jP.c2
  have hKK:=(vU.trans hK3).trans hK4
  go_wp2_with fail
  refine (Node ⟨112,0,0,0,⟨#[]⟩,⟨#[]⟩,k,k⟩ jP (St.L_le (st:=st') hs (by omega) (by rw [(aA HB).2.1];exact eG) (aA HB).2.2) (fun k hk=>by have:=hY k hk;have:=hKK.size;omega)).mono ?_
  rintro e w5 ⟨rfl,jV,gL⟩
  go_wp2
  go_ret
  refine ⟨hKK.trans gL,?_⟩
  rw [(aA HB).1]
  exact ⟨⟨_,rfl⟩,⟨_,jV,rfl,(aA HB).2.1,eG,St.bd_node (St.bd_spoil (aA HB).2.2) _ (by omega)⟩,eI⟩
 ·have PI:=sU s hs _ _ _ _ hg
  have dO:dJ (enc (.alt l) st.P).2 (.alt l) (enc (.alt l) st.P).1:=Y8 (.alt l) st.P (by rw [aX];exact PI.2)
  have hw2:wf (.alt l)=true:=by rw [wf];exact PI.1
  have aBJ:0<(enc (.alt l) st.P).2.length:=by rw [enc];simp
  have aF9:=Y9 (.alt l) st.P
  generalize (enc (.alt l) st.P).2=PP at *
  generalize (enc (.alt l) st.P).1=kk at *
  have PC:=aB (K1 47 gI hs jY (St.out_le hs (by omega) (Nat.le_of_lt jY) fQ) (aA HD).1 aCK)
  rw [St.up_P st s _ j (by omega) jY] at PC
  have aFG:=St.bd_step (c:=c-20) fQ (by omega) jY (by omega)
  have eE:=dK s (j+1) jY
  have HGP:Hid (eY s (4*s.size+4) st.i=if pk s (aF s (j+1))=34 then (bN s (aF s (j+1))).bind fun v k=>(bN s (aF s k)).bind fun d m => .ok (.fixed l st.i (j+1) v d (aF s k)) m else .ok (.same l st.i (j+1)) (aF s (j+1))):=by
   show eY s (4*s.size+4) st.i=_
   rw [eY,hg];simp only [cN.bind];rw [if_pos aCK]
  have HB:=aB (And.intro aFG (And.intro dO (And.intro hw2 aBJ)))
  have HX:=aB aF9
  clear hg aCK fQ aFG PI dO hw2 aBJ aF9
  go_wp2_with fail
  refine (aA PC).mono ?_
  rintro e w3 ⟨rfl,eF,hK3⟩
  go_wp2_with fail
  refine (qQ eF hs jY (aA HD).1).mono ?_
  rintro e w4 ⟨rfl,jP,hK4⟩
  have hKK:=(vU.trans hK3).trans hK4
  have hYK:∀ k,Y k->k<w4.heap.size:=fun k hk=>by have:=hY k hk;have:=hKK.size;omega
  have c2:w4.cell? ⟨b,2,none⟩=some (.bool false):=jP.c2.trans (by show some (Value.bool st.bad)=_;rw [(aA HD).1])
  have aFF:St.bd {st.upTo s (j+1) with i:=aF s (j+1),P:=PP} (c-20):=St.bd_i (aA HB).1 _ eE.1
  have aHM:RH w4 Y b s {st.upTo s (j+1) with i:=aF s (j+1),P:=PP}:=jP
  have HP:=aB (oZ (i:=aF s (j+1)) aHM hs rfl eE.2 (aA HD).1)
  have HBB:=aB aFF
  clear jP aFF
  by_cases kR:pk s (aF s (j+1))=34
  ·rw [kR] at HP
   have M9:=aB (aA HGP)
   rw [if_pos kR] at M9
   have HQ:=aB (fun (W:World) (hW:RH W Y b s _)=>WG (st:={st.upTo s (j+1) with i:=aF s (j+1),P:=PP}) hW hs (aA HD).1 eE.2 (aA HBB) (by omega))
   clear kR
   go_wp2_with (go_at_call 58;refine (aA HP).mono ?_;rintro e w5 ⟨rfl,jV,gL⟩)
   refine (aA HQ _ jV).mono ?_
   rintro e w6 ⟨uK,XV⟩
   have aFW:=(hKK.trans gL).trans uK
   replace XV:J5 Y b s _ e w6 (bN s (aF s (j+1))):=XV
   cases hg1:bN s (aF s (j+1)) with
   | err p=>
    rw [hg1] at XV M9
    obtain ⟨eI,eG,⟨x,rfl⟩,rK⟩:=XV
    have aGX:aF s (j+1)<=p:=eI
    have HG:=aB (And.intro (aA M9) (St.bd_upTo (aA HBB) s p eI eG))
    clear hg1 M9 eI c2
    go_wp2_with fail
    refine (AJ rK hs eG rfl).mono ?_
    rintro e w7 ⟨rfl,pM,rM⟩
    have c1:=pM.c1
    go_wp2_with fail
    refine (OW pM hs rfl eG).mono ?_
    rintro e w8 ⟨⟨y,rfl⟩,uJ,R0⟩
    have c2:w8.cell? ⟨b,2,none⟩=some (.bool true):=uJ.c2
    go_wp2
    go_ret
    refine ⟨(aFW.trans rM).trans R0,?_⟩
    rw [(aA HG).1]
    exact ⟨⟨0,rfl⟩,⟨_,uJ,rfl,rfl,eG,St.bd_mono (aA HG).2 (by omega)⟩,by omega⟩
   | ok v k1=>
    rw [hg1] at XV M9
    obtain ⟨aY,aCJ,dB,rfl,rK⟩:=XV
    have cT:aF s (j+1)<k1:=aY
    have hk2:=dK s k1 aCJ
    have aFE:=St.bd_i (St.bd_upTo (aA HBB) s k1 (Nat.le_of_lt aY) aCJ) (aF s k1) hk2.1
    have ME:=aB (And.intro (iA hg1).2.2.2 (And.intro (aA M9) aFE))
    simp only [cN.bind] at ME
    clear hg1 M9 aY aFE c2
    go_wp2_with fail
    refine (qQ rK hs aCJ (aA HD).1).mono ?_
    rintro e w7 ⟨rfl,pM,rM⟩
    have c1:w7.cell? ⟨b,1,none⟩=some (.int .i64 (aF s k1:Nat)):=pM.c1
    have aHO:=aFW.trans rM
    go_wp2_with fail
    refine (WG pM hs (aA HD).1 hk2.2 (aA ME).2.2 (by omega)).mono ?_
    rintro e w8 ⟨R0,OE⟩
    have aFV:=aHO.trans R0
    replace OE:J5 Y b s _ e w8 (bN s (aF s k1)):=OE
    clear c1
    cases hg2:bN s (aF s k1) with
    | err p=>
     rw [hg2] at OE ME
     obtain ⟨eI,eG,⟨x,rfl⟩,uJ⟩:=OE
     have aGX:aF s k1<=p:=eI
     have HG:=aB (And.intro (aA ME).2.1 (St.bd_upTo (aA ME).2.2 s p eI eG))
     clear hg2 ME eI
     have c2:w8.cell? ⟨b,2,none⟩=some (.bool true):=uJ.c2
     go_wp2
     go_ret
     refine ⟨aFV,?_⟩
     rw [(aA HG).1]
     exact ⟨⟨0,rfl⟩,⟨_,uJ,rfl,rfl,eG,St.bd_mono (aA HG).2 (by omega)⟩,by omega⟩
    | ok dd m=>
     rw [hg2] at OE ME
     obtain ⟨qZ,lV,hdl,rfl,uJ⟩:=OE
     have aIK:aF s k1<m:=qZ
     have hdd:=(iA hg2).2.2.2
     have aAC:=St.bd_upTo (aA ME).2.2 s m (Nat.le_of_lt qZ) lV
     obtain ⟨gp,cap,xs,c5,oA⟩:=uJ.pm (aA HB).2.2.2
     have c2:w8.cell? ⟨b,2,none⟩=some (.bool false):=uJ.c2.trans (by show some (Value.bool st.bad)=_;rw [(aA HD).1])
     have HIn:=aB (V5 (d:=aE dd) oA (St.P_le hs (by omega) lV aAC) (aA HB).2.1 (aA HB).2.2.1 (by rw [aO];omega))
     have HDD:=aB (And.intro hdd (And.intro aAC uJ))
     have aCR:PP.length<=100000:=St.P_le hs (by omega) lV aAC
     have aCT:st.L.length<=100000:=St.L_le hs (c:=c) (by omega) hi (aA HD).2.1
     clear hg2 qZ hdd aAC oA
     go_wp2_with fail
     refine (aA HIn).mono ?_
     rintro e w9 ⟨x,rfl,hx,hK9⟩
     have UI:=(aA HDD).2.2.k0 hK9
     have X6:=aFV.trans (hK9.kp Y)
     have c3:w9.cell? ⟨b,3,none⟩=some (.int .i64 st.wn):=UI.c3
     have f3:=UI.fz 3
     rw [show (aE dd).data.toList=dd from by simp [aE]] at hx
     have Hx:=aB hx
     clear hx c2 c5
     have hwn:=(aA HD).2.2
     cases x with
     | true=>
      go_wp2_with fail
      refine (AL ⟨116,aE v,[]⟩ (.slice none 0 0) UI aCR (fun k hk=>by have:=hY k hk;have:=X6.size;first | omega | (simp [World.setCell];omega)) (World.ownsRow_nil _ _ _ _) (by intro k hk;cases hk)).mono ?_
      rintro e w10 ⟨rfl,IB,M3⟩
      go_wp2_with fail
      refine (Node ⟨107,0,0,0,aE v,aE dd,kk,PP.length⟩ IB aCT (fun k hk=>by have:=hY k hk;have:=X6.size;have:=M3.size;first | omega | (simp [World.setCell] at this;omega))).mono ?_
      rintro e w11 ⟨rfl,UJ,UP⟩
      go_wp2
      go_ret
      refine ⟨(X6.trans M3).trans UP,?_⟩
      rw [(aA ME).2.1]
      refine ⟨by omega,lV,_,_,rfl,by simp,by simp [St.upTo_L],UJ,rfl,(aA HD).1,?_,?_,?_,?_,St.bd_node (St.bd_lay (St.bd_wn (aA HDD).2.1 _) _) _ (by omega),by rw [bP];exact kA.key (aA HX) (aA HB).2.1 (by rw [cR]) (aA HB).2.2.1 (by omega) (by omega)⟩
      ·exact zF st.out s st.i (j+1) _ k1 _ m l v dd _ (aA ME).1 (aA HDD).1
      ·rw [eX];exact ⟨fun h0=>⟨by omega,none,by rw [cC];exact Or.inl ⟨by simpa using aA Hx,rfl⟩,by show st.wn = -1;omega⟩,fun _=>rfl⟩
      ·show -1<=st.wn;omega
      ·show st.wn<(m:Int);omega
     | false=>
      by_cases h0:st.wn<0
      ·have q5:decide (st.wn<0)=true:=by simpa using h0
       go_wp2_with fail
       refine (AL ⟨116,aE v,[]⟩ (.slice none 0 0) (UI.setWn ((aF s k1:Nat):Int)) aCR (fun k hk=>by have:=hY k hk;have:=X6.size;first | omega | (simp [World.setCell];omega)) (World.ownsRow_nil _ _ _ _) (by intro k hk;cases hk)).mono ?_
       rintro e w10 ⟨rfl,IB,M3⟩
       go_wp2_with fail
       refine (Node ⟨107,0,0,0,aE v,aE dd,kk,PP.length⟩ IB aCT (fun k hk=>by have:=hY k hk;have:=X6.size;have:=M3.size;first | omega | (simp [World.setCell] at this;omega))).mono ?_
       rintro e w11 ⟨rfl,UJ,UP⟩
       go_wp2
       go_ret
       refine ⟨((X6.trans (Kp.set _ _ _ _ UI.nb)).trans M3).trans UP,?_⟩
       rw [(aA ME).2.1]
       refine ⟨by omega,lV,_,_,rfl,by simp,by simp [St.upTo_L],UJ,rfl,(aA HD).1,?_,?_,?_,?_,St.bd_node (St.bd_lay (St.bd_wn (aA HDD).2.1 _) _) _ (by omega),by rw [bP];exact kA.key (aA HX) (aA HB).2.1 (by rw [cR]) (aA HB).2.2.1 (by omega) (by omega)⟩
       ·exact zF st.out s st.i (j+1) _ k1 _ m l v dd _ (aA ME).1 (aA HDD).1
       ·rw [eX];exact ⟨fun _=>⟨by omega,some (aF s k1),by rw [cC];exact Or.inr ⟨by simpa using aA Hx,rfl⟩,rfl⟩,fun h1=>by omega⟩
       ·show -1<=((aF s k1:Nat):Int);omega
       ·show ((aF s k1:Nat):Int)<(m:Int);omega
      ·have q5:decide (st.wn<0)=false:=by simpa using h0
       have q6:decide (((aF s k1:Nat):Int)<st.wn)=false:=by simp;omega
       go_wp2_with fail
       refine (AL ⟨116,aE v,[]⟩ (.slice none 0 0) UI aCR (fun k hk=>by have:=hY k hk;have:=X6.size;first | omega | (simp [World.setCell];omega)) (World.ownsRow_nil _ _ _ _) (by intro k hk;cases hk)).mono ?_
       rintro e w10 ⟨rfl,IB,M3⟩
       go_wp2_with fail
       refine (Node ⟨107,0,0,0,aE v,aE dd,kk,PP.length⟩ IB aCT (fun k hk=>by have:=hY k hk;have:=X6.size;have:=M3.size;first | omega | (simp [World.setCell] at this;omega))).mono ?_
       rintro e w11 ⟨rfl,UJ,UP⟩
       go_wp2
       go_ret
       refine ⟨(X6.trans M3).trans UP,?_⟩
       rw [(aA ME).2.1]
       refine ⟨by omega,lV,_,_,rfl,by simp,by simp [St.upTo_L],UJ,rfl,(aA HD).1,?_,?_,?_,?_,St.bd_node (St.bd_lay (St.bd_wn (aA HDD).2.1 _) _) _ (by omega),by rw [bP];exact kA.key (aA HX) (aA HB).2.1 (by rw [cR]) (aA HB).2.2.1 (by omega) (by omega)⟩
       ·exact zF st.out s st.i (j+1) _ k1 _ m l v dd _ (aA ME).1 (aA HDD).1
       ·rw [eX];exact ⟨fun h1=>by omega,fun _=>rfl⟩
       ·show -1<=st.wn;omega
       ·show st.wn<(m:Int);omega
  ·have q1:(pk s (aF s (j+1)) != 34)=true:=by rw [bne_iff_ne];exact kR
   have M9:=aB (aA HGP)
   rw [if_neg kR] at M9
   clear kR
   generalize C7:pk s (aF s (j+1))=a at *
   clear C7
   go_wp2_with (go_at_call 58;refine (aA HP).mono ?_;rintro e w5 ⟨rfl,jV,gL⟩)
   refine (Node ⟨112,0,0,0,⟨#[]⟩,⟨#[]⟩,kk,kk⟩ jV (St.L_le hs (by omega) eE.2 (aA HBB)) (fun k hk=>by have:=hYK k hk;have:=gL.size;omega)).mono ?_
   rintro e w6 ⟨rfl,rK,uK⟩
   go_wp2
   go_ret
   refine ⟨(hKK.trans gL).trans uK,?_⟩
   rw [aA M9]
   refine ⟨by omega,eE.2,_,_,rfl,by simp,by simp [St.upTo_L],rK,rfl,(aA HD).1,?_,?_,(aA HD).2.2.1,?_,St.bd_node (aA HBB) _ (by omega),by rw [bP];exact kA.pat (aA HX) (aA HB).2.1 (by rw [cR]) (aA HB).2.2.1⟩
   ·show (st.upTo s (j+1)).out=_
    rw [form,jI];rfl
   ·rw [eX];exact rD.nil (aA HD).2.2.1
   ·show st.wn<_
    have:=(aA HD).2.2.2
    omega
section
variable {w:World} {Y:Nat->Prop} {b:Nat} {s:ByteArray} {p:Nat} {c:Int}
theorem JS (x:Int) (hx:x≠0) (h:dH w Y b s p c) (hs:s.size<=120):
  Calls Tryz.prog 155 #[.pointer (some ⟨b,0,none⟩),.int .u8 x] w fun e w'=>e = .returned (.tuple #[])/\dH w' Y b s p c/\Kp Y w w':=by
 obtain ⟨st,hR,hb,hi,hp,hd⟩:=h
 refine (tF x hR hs (by rw [hi];exact hp) (by rw [hb,gC];exact Ne.symm hx)).mono ?_
 rintro e w' ⟨rfl,h1,h2⟩
 rw [St.spoil_bad st hb] at h1
 exact ⟨rfl,⟨st,h1,hb,hi,hp,hd⟩,h2⟩
theorem aDQ (h:dH w Y b s p c) (hs:s.size<=120):
  Calls Tryz.prog 58 #[.pointer (some ⟨b,0,none⟩)] w fun e w'=>e = .returned (.int .u8 0)/\dH w' Y b s p c/\Kp Y w w':=by
 obtain ⟨st,hR,hb,hi,hp,hd⟩:=h
 refine (DZ hR hs (by rw [hi];exact hp) hb).mono ?_
 rintro e w' ⟨rfl,h1,h2⟩
 exact ⟨rfl,⟨st,h1,hb,hi,hp,hd⟩,h2⟩
theorem WU (h:dH w Y b s p c) (hs:s.size<=120):
  Calls Tryz.prog 56 #[.pointer (some ⟨b,0,none⟩)] w fun e w'=>e = .returned (.tuple #[])/\dH w' Y b s p c/\Kp Y w w':=by
 obtain ⟨st,hR,hb,hi,hp,hd⟩:=h
 refine (AJ hR hs (by rw [hi];exact hp) hb).mono ?_
 rintro e w' ⟨rfl,h1,h2⟩
 exact ⟨rfl,⟨st,h1,hb,hi,hp,hd⟩,h2⟩
theorem dH.c1 (h:dH w Y b s p c):w.cell? ⟨b,1,none⟩=some (.int .i64 p):=by
 obtain ⟨st,hR,hb,hi,hp,hd⟩:=h
 rw [hR.c1,hi]
theorem dH.c2 (h:dH w Y b s p c):w.cell? ⟨b,2,none⟩=some (.bool true):=by
 obtain ⟨st,hR,hb,hi,hp,hd⟩:=h
 rw [hR.c2,hb]
theorem dH.fz (h:dH w Y b s p c) (o:Nat):w.frozen? ⟨b,o,none⟩=false:=by
 obtain ⟨st,hR,hb,hi,hp,hd⟩:=h
 exact hR.fz o
theorem dH.nb (h:dH w Y b s p c):¬ Y b:=by
 obtain ⟨st,hR,hb,hi,hp,hd⟩:=h
 exact hR.nb
theorem dH.setBad (h:dH w Y b s p c):dH (w.setCell ⟨b,2,none⟩ (.bool true)) Y b s p c:=by
 obtain ⟨st,hR,hb,hi,hp,hd⟩:=h
 exact ⟨_,hR.setBad,rfl,hi,hp,hd⟩
theorem dH.c4 (h:dH w Y b s p c) (hs:s.size<=120) (hc:c<=5000):∃ o:ByteArray,w.cell? ⟨b,4,none⟩=some (.string o)/\o.size<=100000/\∀ x:UInt8,dH (w.setCell ⟨b,4,none⟩ (.string (o++⟨#[x]⟩))) Y b s p (c+1):=by
 obtain ⟨st,hR,hb,hi,hp,hd⟩:=h
 refine ⟨st.out,hR.c4,St.out_le hs hc (by rw [hi];exact hp) hd,fun x=>⟨_,hR.setOut _,hb,hi,hp,?_⟩⟩
 unfold St.bd at *
 have:(st.out++(⟨#[x]⟩:ByteArray)).size=st.out.size+1:=by rw [ByteArray.size_append];rfl
 simp only [this]
 omega
theorem dH.mono (h:dH w Y b s p c) {d:Int} (hcd:c<=d):dH w Y b s p d:=by
 obtain ⟨st,hR,hb,hi,hp,hd⟩:=h
 exact ⟨st,hR,hb,hi,hp,St.bd_mono hd hcd⟩
theorem aDO (h:dH w Y b s p c) (hs:s.size<=120):
  Calls Tryz.prog 131 #[.pointer (some ⟨b,0,none⟩)] w fun e w'=>e = .returned (.int .i64 0)/\dH w' Y b s p c/\Kp Y w w':=by
 have c1:=h.c1
 have HP:=aB (aDQ h hs)
 clear h
 go_enter Tryz.func131,Tryz.ntmps131
 go_wp2_with fail
 refine (aA HP).mono ?_
 rintro e w1 ⟨rfl,mN,cO⟩
 have c2:=mN.c2
 have f2:=mN.fz 2
 go_wp2
 go_ret
 exact ⟨rfl,mN.setBad,cO.trans (Kp.set _ _ _ _ mN.nb)⟩
theorem aGB (h:dH w Y b s p c) (hs:s.size<=120):
  Calls Tryz.prog 86 #[.pointer (some ⟨b,0,none⟩)] w fun e w'=>e = .returned (.int .i64 0)/\dH w' Y b s p c/\Kp Y w w':=by
 have HP:=aB (aDO h hs)
 clear h
 go_enter Tryz.func86,Tryz.ntmps86
 go_wp2_with fail
 refine (aA HP).mono ?_
 rintro e w1 ⟨rfl,mN,cO⟩
 have c2:=mN.c2
 go_wp2
 go_ret
 exact ⟨rfl,mN,cO⟩
theorem aHY (h:dH w Y b s p c) (hs:s.size<=120):
  Calls Tryz.prog 57 #[.pointer (some ⟨b,0,none⟩)] w fun e w'=>e = .returned (.int .i64 0)/\dH w' Y b s p c/\Kp Y w w':=by
 have HP:=aB (aGB h hs)
 clear h
 go_enter Tryz.func57,Tryz.ntmps57
 go_wp2_with fail
 refine (aA HP).mono ?_
 rintro e w1 ⟨rfl,mN,cO⟩
 go_wp2_with fail
 go_loopg [3] 0 (fun gk kv wv=>kv = .int .i64 0/\wv=w1)
 case atStart=>exact ⟨rfl,rfl⟩
 case round=>
  obtain ⟨rfl,rfl⟩:=hrel
  have c2:=mN.c2
  go_wp2
  go_ret
  exact ⟨rfl,mN,cO⟩
theorem MC (h:dH w Y b s p c) (hs:s.size<=120):
  Calls Tryz.prog 43 #[.pointer (some ⟨b,0,none⟩)] w fun e w'=>e = .returned (.int .i64 0)/\dH w' Y b s p c/\Kp Y w w':=by
 have HP:=aB (WU h hs)
 clear h
 go_enter Tryz.func43,Tryz.ntmps43
 go_wp2_with fail
 refine (aA HP).mono ?_
 rintro e w1 ⟨rfl,mN,cO⟩
 go_wp2_with fail
 refine (aHY mN hs).mono ?_
 rintro e w2 ⟨rfl,hB2,hK2⟩
 go_wp2_with fail
 go_loopg [3] 0 (fun gk kv wv=>kv = .int .i64 0/\wv=w2)
 case atStart=>exact ⟨rfl,rfl⟩
 case round=>
  obtain ⟨rfl,rfl⟩:=hrel
  have c2:=hB2.c2
  go_wp2
  go_ret
  exact ⟨rfl,hB2,cO.trans hK2⟩
end
def T1 (s:ByteArray) (b i0:Nat):Prop:=
 ∀ (w:World) (Y:Nat->Prop) (st:St) (c:Int),i0<=st.i->RH w Y b s st->st.bad=false->st.i<=s.size->st.bd c->c<=3000->(∀ k,Y k->k<w.heap.size) -> -1<=st.wn/\st.wn<st.i->∀ n,6*(s.size-st.i)+2<=n->
  Calls Tryz.prog 131 #[.pointer (some ⟨b,0,none⟩)] w fun e w'=>Kp Y w w'/\MD Y b s st c 12 e w' (bX s n st.i)
def EC (s:ByteArray) (b i0:Nat):Prop:=
 ∀ (w:World) (Y:Nat->Prop) (st:St) (c:Int),i0<=st.i->RH w Y b s st->st.bad=false->st.i<=s.size->st.bd c->c<=3000->(∀ k,Y k->k<w.heap.size) -> -1<=st.wn/\st.wn<st.i->∀ n,6*(s.size-st.i)+3<=n->
  Calls Tryz.prog 86 #[.pointer (some ⟨b,0,none⟩)] w fun e w'=>Kp Y w w'/\MD Y b s st c 12 e w' (dT s n st.i)
def tD (sep:List UInt8) (Y:Nat->Prop) (b:Nat) (s:ByteArray) (st:St) (c d:Int) (e:Ending) (w':World):cN (List LT×List Nat)->Prop
 | .ok x j=>st.i<j/\j<=s.size/\aBQ Y b s st c e w' (eR s sep x.1) (dQ x.1) j (cX (aE9 sep) x.1 x.2)
 | .err p=>(∃ k:Nat,e = .returned (.int .i64 k))/\dH w' Y b s p (c+d)/\st.i<=p
def LY (s:ByteArray) (b i0:Nat):Prop:=
 ∀ (w:World) (Y:Nat->Prop) (st:St) (c:Int),i0<=st.i->RH w Y b s st->st.bad=false->st.i<=s.size->st.bd c->c<=2995->(∀ k,Y k->k<w.heap.size) -> -1<=st.wn/\st.wn<st.i->∀ n,6*(s.size-st.i)+4<=n->
  Calls Tryz.prog 57 #[.pointer (some ⟨b,0,none⟩)] w fun e w'=>Kp Y w w'/\tD [32] Y b s st c 14 e w' (bI s n st.i)
def J8 (s:ByteArray) (b i0:Nat):Prop:=
 ∀ (w:World) (Y:Nat->Prop) (st:St) (c:Int),i0<=st.i->RH w Y b s st->st.bad=false->st.i<=s.size->st.bd c->c<=2985->(∀ k,Y k->k<w.heap.size) -> -1<=st.wn/\st.wn<st.i->∀ n,6*(s.size-st.i)+5<=n->
  Calls Tryz.prog 43 #[.pointer (some ⟨b,0,none⟩)] w fun e w'=>Kp Y w w'/\tD [32,124,32] Y b s st c 18 e w' (aV s n st.i)
theorem mG (s:ByteArray):∀ (l:List LT) (ps:List Nat),form s (joinAlt l ps)=eR s [32,124,32] l
 | [],ps=>by rw [joinAlt,form] <;> simp
 | [t],ps=>by rw [joinAlt,eR,lY];simp
 | t::u::l,ps=>by rw [joinAlt,form];simp
theorem xQ (s:ByteArray):∀ (l:List LT) (ps:List Nat),form s (joinRow l ps)=eR s [32] l
 | [],ps=>by rw [joinRow,form] <;> simp
 | [t],ps=>by rw [joinRow,eR,lY];simp
 | t::u::l,ps=>by rw [joinRow,form];simp
theorem kZ:∀ (l:List LT) (ps:List Nat),eX (joinAlt l ps)=dQ l
 | [],ps=>by rw [joinAlt,eX] <;> simp
 | [t],ps=>by rw [joinAlt,dQ,dQ];simp
 | t::u::l,ps=>by rw [joinAlt,eX];simp
theorem uS:∀ (l:List LT) (ps:List Nat),eX (joinRow l ps)=dQ l
 | [],ps=>by rw [joinRow,eX] <;> simp
 | [t],ps=>by rw [joinRow,dQ,dQ];simp
 | t::u::l,ps=>by rw [joinRow,eX];simp
theorem IZ {s:ByteArray} {i:Nat} (h:i<s.size) {c:UInt8} (hc:pk s i=(c.toNat:Int)):s[i]=c:=by
 unfold pk at hc
 rw [dif_pos h] at hc
 exact UInt8.toNat.inj (by omega)
theorem St.took_txt {st:St} {s:ByteArray} {c:UInt8} (h:st.i<s.size) (hc:pk s st.i=(c.toNat:Int)):st.took s={st with i:=st.i+1,out:=st.out++aE [c]}:=by
 rw [St.took_eq h,IZ h hc];rfl
theorem St.bd_took {st:St} {c d:Int} (hd:st.bd c) (o:List UInt8) (n:Nat) (ho:o.length=n) (hcd:c+n-20<=d) (hd0:c-20<=d):St.bd {st with i:=st.i+1,out:=st.out++aE o} d:=by
 unfold St.bd at *
 have:(st.out++aE o).size=st.out.size+n:=by rw [ByteArray.size_append,aO,ho]
 simp only [this]
 omega
theorem St.bd_two {st:St} {c d:Int} (hd:st.bd c) (p q:iD) (l:lS) (hcd:c+2<=d):St.bd {st with P:=st.P++[p]++[q],L:=st.L++[l]} d:=by
 unfold St.bd at *
 simp
 omega
theorem aB8 {w:World} {Y:Nat->Prop} {b:Nat} {s:ByteArray} {st:St} {j:Nat} (c:UInt8) (h:RH w Y b s st) (hs:s.size<=120) (ei:st.i=j) (hj:j<s.size) (ho:st.out.size<=100000) (hb:st.bad=false) (hc:pk s j=(c.toNat:Int)):
  Calls Tryz.prog 155 #[.pointer (some ⟨b,0,none⟩),.int .u8 (c.toNat:Int)] w fun e w'=>e = .returned (.tuple #[])/\RH w' Y b s {st with i:=j+1,out:=st.out++aE [c]}/\Kp Y w w':=by
 subst ei
 have:=K1 (c.toNat:Int) h hs hj ho hb hc
 rw [St.took_txt hj hc] at this
 exact this
theorem LU {w:World} {Y:Nat->Prop} {b:Nat} {s:ByteArray} {st:St} {j:Nat} (c:UInt8) (h:RH w Y b s st) (hs:s.size<=120) (ei:st.i=j) (hj:j<s.size) (ho:st.out.size<=100000) (hb:st.bad=false) (hc:pk s j=(c.toNat:Int)):
  Calls Tryz.prog 59 #[.pointer (some ⟨b,0,none⟩)] w fun e w'=>(∃ x,e = .returned (.int .u8 x))/\RH w' Y b s {st with i:=j+1,out:=st.out++aE [c]}/\Kp Y w w':=by
 subst ei
 have:=oY h hs hj ho hb
 rw [St.took_txt hj hc] at this
 exact this.mono fun _ _ ⟨h1,h2,h3⟩=>⟨⟨_,h1⟩,h2,h3⟩
theorem aB7 {w:World} {Y:Nat->Prop} {b:Nat} {s:ByteArray} {st:St} {j:Nat} {d:Int} (c:Int) (h:RH w Y b s st) (hs:s.size<=120) (ei:st.i=j) (hj:j<=s.size) (hb:st.bad=false) (hd:st.bd d) (hc:pk s j≠c):
  Calls Tryz.prog 155 #[.pointer (some ⟨b,0,none⟩),.int .u8 c] w fun e w'=>e = .returned (.tuple #[])/\dH w' Y b s j d/\Kp Y w w':=by
 subst ei
 refine (tF c h hs hj (by rw [hb];exact hc)).mono ?_
 rintro e w' ⟨rfl,h1,h2⟩
 exact ⟨rfl,⟨_,h1,rfl,rfl,hj,hd⟩,h2⟩
section
variable (s:ByteArray) (n i:Nat)
theorem Y0 (h:pk s i=47):bX s (n+1) i=eY s (4*s.size+4) i:=by rw [bX,if_pos h]
theorem Y2 (h:pk s i=40):bX s (n+1) i=(aV s n (i+1)).bind fun a j=>if pk s j=41 then .ok (.group (joinAlt a.1 a.2)) (j+1) else .err j:=by
 rw [bX,if_neg (by rw [h];decide),if_neg (by rw [h];decide),if_pos h]
theorem DI (h:pk s i=126):bX s (n+1) i=if pk s (aF s (i+1))=40 then
    (aV s n (aF s (i+1)+1)).bind fun a j=>
     if pk s j=44 then (aV s n (j+1)).bind fun b k=>if pk s k=41 then .ok (.swap i (joinAlt a.1 a.2) (joinAlt b.1 b.2)) (k+1) else .err k
     else .err j
   else .err (aF s (i+1)):=by
 rw [bX,if_neg (by rw [h];decide),if_pos h]
theorem DJ (h1:pk s i≠47) (h2:pk s i≠126) (h3:pk s i≠40):bX s (n+1) i = .err i:=by
 rw [bX,if_neg h1,if_neg h2,if_neg h3]
end
theorem RQ {s:ByteArray} {b i0:Nat} (hs:s.size<=120) (lI:J8 s b (i0+1)):T1 s b i0:=by
 intro w Y st c h0 h hb hi hd hc hY hw n hn
 obtain ⟨n,rfl⟩:∃ m,n=m+1:=⟨n-1,by omega⟩
 have c1:=h.c1
 have HP:=aB (oZ (i:=st.i) h hs rfl hi hb)
 have HD:=aB (And.intro hb (And.intro hd (And.intro hw lI)))
 clear h hb hd hw lI
 by_cases rO:pk s st.i=47
 ·have HG:=aB (Y0 s n st.i rO)
  have Hp:=aB rO
  rw [rO] at HP
  clear rO
  go_enter Tryz.func131,Tryz.ntmps131
  go_wp2_with (go_at_call 58;refine (aA HP).mono ?_;rintro e w1 ⟨rfl,gJ,cO⟩)
  refine (aG8 gJ hs (aA HD).1 hi (aA HD).2.1 (by omega) (fun k hk=>by have:=hY k hk;have:=cO.size;omega) (aA HD).2.2.1 (aA Hp)).mono ?_
  rintro e w2 ⟨hK2,fN⟩
  rw [← aA HG] at fN
  have he:∃ k:Nat,e = .returned (.int .i64 k):=by
   cases hg:bX s (n+1) st.i with
   | ok t j=>rw [hg] at fN;obtain ⟨_,_,k,_,he,_⟩:=fN;exact ⟨k,he⟩
   | err p=>rw [hg] at fN;exact fN.1
  obtain ⟨k,rfl⟩:=he
  have xU:=aB fN
  clear fN
  go_wp2
  go_ret
  exact ⟨cO.trans hK2,aA xU⟩
 ·by_cases lX:pk s st.i=40
  ·have hlt:st.i<s.size:=bY (by rw [lX];decide)
   have HG:=aB (Y2 s n st.i lX)
   have HT:=aB (fun (W:World) (hW:RH W Y b s st)=>LU 40 hW hs rfl hlt (St.out_le (c:=c) hs (by omega) hi (aA HD).2.1) (aA HD).1 lX)
   rw [lX] at HP
   clear lX rO
   go_enter Tryz.func131,Tryz.ntmps131
   go_wp2_with (go_at_call 58;refine (aA HP).mono ?_;rintro e w1 ⟨rfl,gJ,cO⟩)
   refine (aA HT _ gJ).mono ?_
   rintro e w2 ⟨⟨x,rfl⟩,gI,hK2⟩
   have vU:=cO.trans hK2
   go_wp2_with fail
   refine ((aA HD).2.2.2 w2 Y _ (c-19) (by show i0+1<=st.i+1;omega) gI (aA HD).1 hlt (St.bd_took (st:=st) (c:=c) (d:=c-19) (aA HD).2.1 [40] 1 rfl (by omega) (by omega)) (by omega) (fun k hk=>by have:=hY k hk;have:=vU.size;omega) ⟨(aA HD).2.2.1.1,by have:=(aA HD).2.2.1.2;show st.wn<((st.i+1:Nat):Int);omega⟩ n (by show 6*(s.size-(st.i+1))+5<=n;omega)).mono ?_
   rintro e w3 ⟨hK3,rL⟩
   have sQ:=vU.trans hK3
   replace rL:tD [32,124,32] Y b s _ (c-19) 18 e w3 (aV s n (st.i+1)):=rL
   cases hg:aV s n (st.i+1) with
   | err p=>
    rw [hg] at rL HG
    obtain ⟨⟨k,rfl⟩,hB,hp⟩:=rL
    have hp':st.i+1<=p:=hp
    clear hg
    go_wp2_with fail
    refine (JS 41 (by decide) hB hs).mono ?_
    rintro e w4 ⟨rfl,hB4,hK4⟩
    go_wp2
    go_ret
    refine ⟨sQ.trans hK4,?_⟩
    rw [aA HG]
    exact ⟨⟨k,rfl⟩,hB4.mono (by omega),by omega⟩
   | ok x j=>
    rw [hg] at rL HG
    obtain ⟨iS,fR,k,st3,rfl,xZ,hL3,eF,yX,hb3,ho3,hw3,aGO,aIB,i8,hN3⟩:=rL
    have HN3:=aB hN3
    clear hN3
    have aF2:st.i+1<j:=iS
    simp only [cN.bind] at HG
    clear hg
    by_cases lO:pk s j=41
    ·have jY:j<s.size:=bY (by rw [lO];decide)
     rw [if_pos lO] at HG
     have HE:=aB (aB8 41 eF hs yX jY (St.out_le hs (by omega) (by rw [yX];exact fR) i8) hb3 lO)
     have HF:=aB (And.intro yX (And.intro hb3 (And.intro ho3 (And.intro hw3 i8))))
     clear lO yX hb3 ho3 hw3 i8
     go_wp2_with fail
     refine (aA HE).mono ?_
     rintro e w4 ⟨rfl,jP,hK4⟩
     go_wp2
     go_ret
     refine ⟨sQ.trans hK4,?_⟩
     rw [aA HG]
     refine ⟨by omega,jY,k,{st3 with i:=j+1,out:=st3.out++aE [41]},rfl,xZ,hL3,jP,rfl,(aA HF).2.1,?_,?_,aGO,by show st3.wn<((j+1:Nat):Int);omega,?_,by rw [bP,oE];exact aA HN3⟩
     ·show st3.out++aE [41]=_
      rw [(aA HF).2.2.1]
      show (st.out++aE [40])++_++_=_
      rw [form,mG,ByteArray.append_assoc,ByteArray.append_assoc,← cU,← cU]
      rfl
     ·rw [eX,kZ];exact (aA HF).2.2.2.1
     ·have:=St.bd_took (d:=c-10) (aA HF).2.2.2.2 [41] 1 rfl (by omega) (by omega)
      rw [(aA HF).1] at this
      exact this
    ·rw [if_neg lO] at HG
     have HE:=aB (aB7 41 eF hs yX fR hb3 i8 lO)
     clear lO yX hb3 ho3 hw3 i8
     go_wp2_with fail
     refine (aA HE).mono ?_
     rintro e w4 ⟨rfl,hB4,hK4⟩
     go_wp2
     go_ret
     refine ⟨sQ.trans hK4,?_⟩
     rw [aA HG]
     exact ⟨⟨k,rfl⟩,hB4.mono (by omega),by omega⟩
  ·by_cases sR:pk s st.i=126
   ·have hlt:st.i<s.size:=bY (by rw [sR];decide)
    have HG:=aB (DI s n st.i sR)
    have HT:=aB (fun (W:World) (hW:RH W Y b s st)=>LU 126 hW hs rfl hlt (St.out_le (c:=c) hs (by omega) hi (aA HD).2.1) (aA HD).1 sR)
    rw [sR] at HP
    have lW:=dK s (st.i+1) hlt
    clear lX rO sR
    go_enter Tryz.func131,Tryz.ntmps131
    go_wp2_with (go_at_call 58;refine (aA HP).mono ?_;rintro e w1 ⟨rfl,gJ,cO⟩)
    refine (aA HT _ gJ).mono ?_
    rintro e w2 ⟨⟨x,rfl⟩,gI,hK2⟩
    go_wp2_with fail
    refine (qQ gI hs hlt (aA HD).1).mono ?_
    rintro e w3 ⟨rfl,eF,hK3⟩
    replace eF:RH w3 Y b s {st with i:=aF s (st.i+1),out:=st.out++aE [126]}:=eF
    have sQ:=(cO.trans hK2).trans hK3
    have j5:St.bd {st with i:=aF s (st.i+1),out:=st.out++aE [126]} (c-19):=St.bd_i (St.bd_took (aA HD).2.1 [126] 1 rfl (by omega) (by omega)) _ lW.1
    clear c1
    by_cases lX:pk s (aF s (st.i+1))=40
    ·have aF3:aF s (st.i+1)<s.size:=bY (by rw [lX];decide)
     rw [if_pos lX] at HG
     have HE:=aB (aB8 40 eF hs rfl aF3 (St.out_le hs (by omega) lW.2 j5) (aA HD).1 lX)
     have aFH:St.bd {st with i:=aF s (st.i+1)+1,out:=st.out++aE [126]++aE [40]} (c-38):=St.bd_took j5 [40] 1 rfl (by omega) (by omega)
     have HB4:=aB aFH
     clear lX j5 aFH
     go_wp2_with fail
     refine (aA HE).mono ?_
     rintro e w4 ⟨rfl,jP,hK4⟩
     have E8:=sQ.trans hK4
     go_wp2_with fail
     refine ((aA HD).2.2.2 w4 Y _ (c-38) (by show i0+1<=aF s (st.i+1)+1;omega) jP (aA HD).1 aF3 (aA HB4) (by omega) (fun k hk=>by have:=hY k hk;have:=E8.size;omega) ⟨(aA HD).2.2.1.1,by have:=(aA HD).2.2.1.2;show st.wn<((aF s (st.i+1)+1:Nat):Int);omega⟩ n (by show 6*(s.size-(aF s (st.i+1)+1))+5<=n;omega)).mono ?_
     rintro e w5 ⟨gL,hP5⟩
     have CY:=E8.trans gL
     replace hP5:tD [32,124,32] Y b s _ (c-38) 18 e w5 (aV s n (aF s (st.i+1)+1)):=hP5
     cases hg:aV s n (aF s (st.i+1)+1) with
     | err p=>
      rw [hg] at hP5 HG
      obtain ⟨⟨k,rfl⟩,hB,hp⟩:=hP5
      have hp':aF s (st.i+1)+1<=p:=hp
      clear hg
      go_wp2_with fail
      refine (JS 44 (by decide) hB hs).mono ?_
      rintro e wa ⟨rfl,OI,hKa⟩
      have UN:=CY.trans hKa
      obtain ⟨oo,c4,hoo,sJ⟩:=OI.c4 hs (by omega)
      have f4:=OI.fz 4
      have hno:¬ 9223372036854775807<oo.size+1:=by omega
      go_wp2_with fail
      refine (MC (sJ 32) hs).mono ?_
      rintro e wb ⟨rfl,hBb,EN⟩
      go_wp2_with fail
      refine (JS 41 (by decide) hBb hs).mono ?_
      rintro e wc ⟨rfl,LJ,hKc⟩
      have c2c:=LJ.c2
      go_wp2
      go_ret
      refine ⟨((UN.trans (Kp.set _ _ _ _ OI.nb)).trans EN).trans hKc,?_⟩
      rw [aA HG]
      exact ⟨⟨0,rfl⟩,LJ.mono (by omega),by omega⟩
     | ok x j=>
      rw [hg] at hP5 HG
      obtain ⟨iS,fR,ka,st5,rfl,xZ,hL5,jV,hi5,rB,ho5,TF,aGL,aIA,hd5,hN5⟩:=hP5
      have HN5:=aB hN5
      clear hN5
      have aF2:aF s (st.i+1)+1<j:=iS
      simp only [cN.bind] at HG
      clear hg
      by_cases IC:pk s j=44
      ·have jY:j<s.size:=bY (by rw [IC];decide)
       rw [if_pos IC] at HG
       have PC:=aB (aB8 44 jV hs hi5 jY (St.out_le hs (by omega) (by rw [hi5];exact fR) hd5) rB IC)
       have hd6:St.bd {st5 with i:=j+1,out:=st5.out++aE [44]} (c-57):=by
        have:=St.bd_took (d:=c-57) hd5 [44] 1 rfl (by omega) (by omega)
        rw [hi5] at this
        exact this
       have hos:(st5.out++aE [44]).size<=100000:=St.out_le (st:={st5 with i:=j+1,out:=st5.out++aE [44]}) hs (by omega) jY hd6
       have hd7:St.bd {st5 with i:=j+1,out:=st5.out++aE [44]++aE [32]} (c-56):=by
        have e:(st5.out++aE [44]++aE [32]).size=(st5.out++aE [44]).size+1:=by rw [ByteArray.size_append (a:=st5.out++aE [44])];rfl
        unfold St.bd at *
        simp only [e]
        simp only at hd6
        omega
       have HF:=aB (And.intro hi5 (And.intro rB (And.intro ho5 (And.intro TF hd7))))
       clear IC hi5 rB ho5 TF hd5 hd6 hd7
       go_wp2_with fail
       refine (aA PC).mono ?_
       rintro e w6 ⟨rfl,rK,uK⟩
       have c4:w6.cell? ⟨b,4,none⟩=some (.string (st5.out++aE [44])):=rK.c4
       have f4:=rK.fz 4
       have hno:¬ 9223372036854775807<(st5.out++aE [44]).size+1:=by omega
       have OG:=CY.trans uK
       have pM:=rK.setOut (st5.out++aE [44]++⟨#[32]⟩)
       have rM:Kp Y w6 (w6.setCell ⟨b,4,none⟩ (.string (st5.out++aE [44]++⟨#[32]⟩))):=Kp.set _ _ _ _ rK.nb
       have HR7:=aB (And.intro pM rM)
       clear pM rM
       generalize hoo:st5.out++aE [44]=oo at *
       have Hoo:=aB hoo
       clear hoo
       go_wp2_with fail
       have X7:=OG.trans (aA HR7).2
       refine ((aA HD).2.2.2 _ Y _ (c-56) (by show i0+1<=j+1;omega) (aA HR7).1 (aA HF).2.1 jY (show St.bd _ _ from (aA HF).2.2.2.2) (by omega) (fun k hk=>by have:=hY k hk;have:=X7.size;omega) ⟨aGL,by show st5.wn<((j+1:Nat):Int);omega⟩ n (by show 6*(s.size-(j+1))+5<=n;omega)).mono ?_
       rintro e w8 ⟨R0,OE⟩
       have aCU:=X7.trans R0
       replace OE:tD [32,124,32] Y b s _ (c-56) 18 e w8 (aV s n (j+1)):=OE
       clear c4 f4
       cases hg:aV s n (j+1) with
       | err p=>
        rw [hg] at OE HG
        obtain ⟨⟨k,rfl⟩,hB,hp⟩:=OE
        have hp':j+1<=p:=hp
        have hKx:=aCU
        clear hg
        go_wp2_with fail
        refine (JS 41 (by decide) hB hs).mono ?_
        rintro e wc ⟨rfl,LJ,hKc⟩
        have c2c:=LJ.c2
        go_wp2
        go_ret
        refine ⟨hKx.trans hKc,?_⟩
        rw [aA HG]
        exact ⟨⟨0,rfl⟩,LJ.mono (by omega),by omega⟩
       | ok y k=>
        rw [hg] at OE HG
        obtain ⟨aY,hk2,kb,st8,rfl,TU,hL8,uJ,PS,XQ,ho8,hw8,aC7,aEE,XO,hN8⟩:=OE
        have HN8:=aB hN8
        clear hN8
        have cT:j+1<k:=aY
        have aHN:st5.L.length<=st8.L.length:=hL8
        simp only at HG
        clear hg
        by_cases lO:pk s k=41
        ·have TS:k<s.size:=bY (by rw [lO];decide)
         rw [if_pos lO] at HG
         have HE3:=aB (aB8 41 uJ hs PS TS (St.out_le hs (by omega) (by rw [PS];exact hk2) XO) XQ lO)
         have hd9:St.bd {st8 with i:=k+1,out:=st8.out++aE [41]} (c-70):=by
          have:=St.bd_took (d:=c-70) XO [41] 1 rfl (by omega) (by omega)
          rw [PS] at this
          exact this
         have YD:=aB (And.intro ho8 (And.intro hw8 hd9))
         have dI:st8.P.length<=99999:=by
          have:=hd9.2.1
          simp only at this
          omega
         have UL:st8.L.length<=100000:=by
          have:=hd9.2.2
          simp only at this
          omega
         clear lO ho8 hw8 XO hd9
         go_wp2_with fail
         refine (aA HE3).mono ?_
         rintro e w9 ⟨rfl,UI,hK9⟩
         have c2:w9.cell? ⟨b,2,none⟩=some (.bool false):=UI.c2.trans (by show some (Value.bool st8.bad)=_;rw [XQ])
         have aFY:=aCU.trans hK9
         have Hb8:=aB (And.intro XQ PS)
         clear XQ PS
         go_wp2_with fail
         have aEZ:ka<st8.L.length:=by omega
         refine (Two 126 (by decide) ka kb st.i st8.L[ka] st8.L[kb] UI dI UL (fun k hk=>by have:=hY k hk;have:=aFY.size;omega) (List.getElem?_eq_getElem aEZ) (List.getElem?_eq_getElem TU)).mono ?_
         rintro e w10 ⟨rfl,IB,M3⟩
         go_wp2
         go_ret
         refine ⟨aFY.trans M3,?_⟩
         rw [aA HG]
         have aJ1:st.L.length<=st5.L.length:=hL5
         refine ⟨by omega,TS,st8.L.length,_,rfl,by simp,by simp;omega,IB,rfl,(aA Hb8).1,?_,?_,aC7,by show st8.wn<((k+1:Nat):Int);omega,?_,by rw [bP,oE,oE];exact kA.two (.inr (.inr rfl)) st.i (aA HN5) (aA HN8) (List.getElem?_eq_getElem aEZ) (List.getElem?_eq_getElem TU)⟩
         ·show st8.out++aE [41]=_
          rw [(aA YD).1]
          show (oo++⟨#[32]⟩)++_++_=_
          rw [← aA Hoo,(aA HF).2.2.1]
          show (((st.out++aE [126]++aE [40])++_)++aE [44]++aE [32])++_++_=_
          rw [form,mG,mG]
          simp only [ByteArray.append_assoc,← cU]
          congr 2
          simp
         ·rw [eX,kZ,kZ]
          exact rD.app (aA HF).2.2.2.1 (aA YD).2.1
         ·exact St.bd_two (aA YD).2.2 _ _ _ (by omega)
        ·rw [if_neg lO] at HG
         have HE3:=aB (aB7 41 uJ hs PS hk2 XQ XO lO)
         clear lO ho8 hw8 XO PS XQ
         go_wp2_with fail
         refine (aA HE3).mono ?_
         rintro e wc ⟨rfl,LJ,hKc⟩
         have c2c:=LJ.c2
         go_wp2
         go_ret
         refine ⟨aCU.trans hKc,?_⟩
         rw [aA HG]
         exact ⟨⟨0,rfl⟩,LJ.mono (by omega),by omega⟩
      ·rw [if_neg IC] at HG
       have PC:=aB (aB7 44 jV hs hi5 fR rB hd5 IC)
       clear IC hi5 rB ho5 TF hd5
       go_wp2_with fail
       refine (aA PC).mono ?_
       rintro e wa ⟨rfl,OI,hKa⟩
       have UN:=CY.trans hKa
       obtain ⟨oo,c4,hoo,sJ⟩:=OI.c4 hs (by omega)
       have f4:=OI.fz 4
       have hno:¬ 9223372036854775807<oo.size+1:=by omega
       go_wp2_with fail
       refine (MC (sJ 32) hs).mono ?_
       rintro e wb ⟨rfl,hBb,EN⟩
       go_wp2_with fail
       refine (JS 41 (by decide) hBb hs).mono ?_
       rintro e wc ⟨rfl,LJ,hKc⟩
       have c2c:=LJ.c2
       go_wp2
       go_ret
       refine ⟨((UN.trans (Kp.set _ _ _ _ OI.nb)).trans EN).trans hKc,?_⟩
       rw [aA HG]
       exact ⟨⟨0,rfl⟩,LJ.mono (by omega),by omega⟩
    ·rw [if_neg lX] at HG
     have HE:=aB (aB7 40 eF hs rfl lW.2 (aA HD).1 j5 lX)
     clear lX j5
     go_wp2_with fail
     refine (aA HE).mono ?_
     rintro e w4 ⟨rfl,hB4,hK4⟩
     go_wp2_with fail
     refine (MC hB4 hs).mono ?_
     rintro e w5 ⟨rfl,hB5,gL⟩
     go_wp2_with fail
     refine (JS 44 (by decide) hB5 hs).mono ?_
     rintro e wa ⟨rfl,OI,hKa⟩
     have UN:=((sQ.trans hK4).trans gL).trans hKa
     obtain ⟨oo,c4,hoo,sJ⟩:=OI.c4 hs (by omega)
     have f4:=OI.fz 4
     have hno:¬ 9223372036854775807<oo.size+1:=by omega
     go_wp2_with fail
     refine (MC (sJ 32) hs).mono ?_
     rintro e wb ⟨rfl,hBb,EN⟩
     go_wp2_with fail
     refine (JS 41 (by decide) hBb hs).mono ?_
     rintro e wc ⟨rfl,LJ,hKc⟩
     have c2c:=LJ.c2
     go_wp2
     go_ret
     refine ⟨((UN.trans (Kp.set _ _ _ _ OI.nb)).trans EN).trans hKc,?_⟩
     rw [aA HG]
     exact ⟨⟨0,rfl⟩,LJ.mono (by omega),by omega⟩
   ·have q1:(pk s st.i==47)=false:=by simpa using rO
    have q2:(pk s st.i==40)=false:=by simpa using lX
    have q3:(pk s st.i==126)=false:=by simpa using sR
    have HG:=aB (DJ s n st.i rO sR lX)
    clear rO lX sR
    generalize pk s st.i=a at *
    go_enter Tryz.func131,Tryz.ntmps131
    go_wp2_with fail
    refine (aA HP).mono ?_
    rintro e w1 ⟨rfl,gJ,cO⟩
    have c2:=gJ.c2
    have f2:=gJ.fz 2
    go_wp2
    go_ret
    refine ⟨cO.trans (Kp.set _ _ _ _ gJ.nb),?_⟩
    rw [aA HG]
    exact ⟨⟨0,rfl⟩,⟨_,gJ.setBad,rfl,rfl,hi,St.bd_mono (aA HD).2.1 (by omega)⟩,Nat.le_refl _⟩
theorem UY (s:ByteArray) (n i:Nat):dT s (n+1) i=(bX s n i).bind fun t j=>if pk s (aF s j)=42 then .ok (.many (aF s j) t) (aF s (aF s j+1)) else .ok t (aF s j):=by rw [dT]
theorem RH.lensAt {w:World} {Y:Nat->Prop} {b:Nat} {s:ByteArray} {st:St} (h:RH w Y b s st) {k:Nat} (hk:k<st.L.length):∃ gl cap,w.cell? ⟨b,6,none⟩=some (.slice (some ⟨gl,0,none⟩) st.L.length cap)/\w.cell? ⟨gl,k*8+6,none⟩=some (.int .i64 st.L[k].s)/\w.cell? ⟨gl,k*8+7,none⟩=some (.int .i64 st.L[k].v):=by
 rcases h.lens with h0 | ⟨gl,cap,h1,_,h2⟩
 ·rw [h0] at hk;simp at hk
 ·exact ⟨gl,cap,h1,h2 k st.L[k] (List.getElem?_eq_getElem hk) 6 (by omega),h2 k st.L[k] (List.getElem?_eq_getElem hk) 7 (by omega)⟩
theorem RH.lay1 {w:World} {Y:Nat->Prop} {b:Nat} {s:ByteArray} {st:St} (kind:Int) (x:Nat) (h:RH w Y b s st) (hn:st.P.length<=100000) (hY:∀ k,Y k->k<w.heap.size):
  Calls Tryz.prog 132 #[.pointer (some ⟨b,0,none⟩),.agg #[.int .u8 kind,.string ⟨#[]⟩,.slice (some ⟨w.heap.size,0,none⟩) 1 1]] (w.alloc (.cells #[.int .i64 x] 3)) fun e w'=>e = .returned (.int .i64 st.P.length)/\RH w' Y b s {st with P:=st.P++[⟨kind,⟨#[]⟩,[x]⟩]}/\Kp Y w w':=by
 refine (AL ⟨kind,⟨#[]⟩,[x]⟩ (.slice (some ⟨w.heap.size,0,none⟩) 1 1) (h.alloc _) hn (fun k hk=>by have:=hY k hk;simp;omega) (World.ownsRow_lit w _ 1 (by omega) (by unfold maxLen;omega) rfl) (by intro k e hy;have:=hY k hy;simp [Value.ownBlock] at e;omega)).mono ?_
 rintro e w3 ⟨rfl,eF,hK3⟩
 exact ⟨rfl,eF,(Kp.alloc _ _ _).trans hK3⟩
theorem aA3 {s:ByteArray} {b i0:Nat} (hs:s.size<=120) (C8:T1 s b i0):EC s b i0:=by
 intro w Y st c h0 h hb hi hd hc hY hw n hn
 obtain ⟨n,rfl⟩:∃ m,n=m+1:=⟨n-1,by omega⟩
 have HPc:=aB (C8 w Y st c h0 h hb hi hd hc hY hw n (by omega))
 have HG:=aB (UY s n st.i)
 clear h hb hd hw C8
 go_enter Tryz.func86,Tryz.ntmps86
 go_wp2_with fail
 refine (aA HPc).mono ?_
 rintro e w1 ⟨cO,oV⟩
 cases hg:bX s n st.i with
 | err p=>
  rw [hg] at oV HG
  obtain ⟨⟨k,rfl⟩,hB,hp⟩:=oV
  clear hg
  have c2:=hB.c2
  go_wp2
  go_ret
  refine ⟨cO,?_⟩
  rw [aA HG]
  exact ⟨⟨0,rfl⟩,hB,hp⟩
 | ok t j=>
  rw [hg] at oV HG
  obtain ⟨iS,fR,k,st1,rfl,xZ,wF,gJ,lW,hb1,D2,dC,V7,GJ,q7,hN1⟩:=oV
  have HN1:=aB hN1
  clear hN1
  simp only [cN.bind] at HG
  have eE:=dK s j fR
  have c2:w1.cell? ⟨b,2,none⟩=some (.bool false):=by rw [gJ.c2,hb1]
  have HF:=aB (And.intro lW (And.intro hb1 (And.intro D2 (And.intro dC q7))))
  clear hg lW hb1 D2 dC q7
  go_wp2_with fail
  refine (qQ gJ hs (by rw [(aA HF).1];exact fR) (aA HF).2.1).mono ?_
  rintro e w2 ⟨rfl,gI,hK2⟩
  rw [(aA HF).1] at gI
  have XP:St.bd {st1 with i:=aF s j} (c-10):=by
   have:=St.bd_i (aA HF).2.2.2.2 (aF s j) (by rw [(aA HF).1];exact eE.1)
   exact this
  have HD2:=aB XP
  have HP:=aB (oZ (i:=aF s j) gI hs rfl eE.2 (aA HF).2.1)
  have vU:=cO.trans hK2
  clear c2 XP
  by_cases yB:pk s (aF s j)=42
  ·rw [if_pos yB] at HG
   have TS:aF s j<s.size:=bY (by rw [yB];decide)
   have hk2:=dK s (aF s j+1) TS
   have HT:=aB (fun (W:World) (hW:RH W Y b s _)=>LU (st:={st1 with i:=aF s j}) 42 hW hs rfl TS (St.out_le (c:=c-10) hs (by omega) eE.2 (aA HD2)) (aA HF).2.1 yB)
   have i8:St.bd {st1 with i:=aF s j+1,out:=st1.out++aE [42]} (c-19):=St.bd_took (st:={st1 with i:=aF s j}) (c:=c-10) (aA HD2) [42] 1 rfl (by omega) (by omega)
   have HD3:=aB i8
   rw [yB] at HP
   clear yB i8
   go_wp2_with fail
   refine (aA HP).mono ?_
   rintro e w3 ⟨rfl,eF,hK3⟩
   have c1:w3.cell? ⟨b,1,none⟩=some (.int .i64 (aF s j:Nat)):=eF.c1
   have sQ:=vU.trans hK3
   go_wp2_with fail
   refine (aA HT _ eF).mono ?_
   rintro e w4 ⟨⟨x,rfl⟩,jP,hK4⟩
   have E8:=sQ.trans hK4
   obtain ⟨gl,cap,c6,cs,_⟩:=jP.lensAt (k:=k) xZ
   have CS:(k:Int)<(st1.L.length:Int):=by omega
   replace c6:w4.cell? ⟨b,6,none⟩=some (.slice (some ⟨gl,0,none⟩) st1.L.length cap):=c6
   clear c1
   go_wp2_with fail
   refine (RH.lay1 42 _ jP (St.P_le (c:=c-19) hs (by omega) TS (aA HD3)) (fun k hk=>by have:=hY k hk;have:=E8.size;omega)).mono ?_
   rintro e w5 ⟨rfl,jV,gL⟩
   have CY:=E8.trans gL
   obtain ⟨gl2,cap2,d6,_,cv⟩:=jV.lensAt (k:=k) xZ
   replace d6:w5.cell? ⟨b,6,none⟩=some (.slice (some ⟨gl2,0,none⟩) st1.L.length cap2):=d6
   clear c6 cs
   go_wp2_with fail
   refine (RH.lay1 42 _ jV (St.P_le (c:=c-18) hs (by omega) TS (St.bd_mono (St.bd_lay (aA HD3) _) (by omega))) (fun k hk=>by have:=hY k hk;have:=CY.size;omega)).mono ?_
   rintro e w6 ⟨rfl,rK,uK⟩
   have OG:=CY.trans uK
   go_wp2_with fail
   refine (qQ rK hs TS (aA HF).2.1).mono ?_
   rintro e w7 ⟨rfl,pM,rM⟩
   have X7:=OG.trans rM
   clear d6 cv
   go_wp2_with fail
   rw [show ((st1.P.length:Int)+1)=((st1.P.length+1:Nat):Int) by omega]
   refine (Node ⟨42,k,0,aF s j,⟨#[]⟩,⟨#[]⟩,st1.P.length,st1.P.length+1⟩ pM (St.L_le (st:=st1) (c:=c-10) hs (by omega) (by rw [(aA HF).1];exact fR) (aA HF).2.2.2.2) (fun k hk=>by have:=hY k hk;have:=X7.size;omega)).mono ?_
   rintro e w8 ⟨rfl,uJ,R0⟩
   go_wp2
   go_ret
   refine ⟨X7.trans R0,?_⟩
   rw [aA HG]
   have aJ3:st.L.length<=st1.L.length:=wF
   refine ⟨by omega,hk2.2,st1.L.length,_,rfl,by simp,by simp;omega,uJ,rfl,(aA HF).2.1,?_,?_,V7,?_,?_,by rw [bP];exact kA.star (aF s j) (aA HN1) (List.getElem?_eq_getElem xZ)⟩
   ·show st1.out++aE [42]=_
    rw [(aA HF).2.2.1,form,ByteArray.append_assoc,← cU]
   ·rw [eX];exact (aA HF).2.2.2.1
   ·show st1.wn<((aF s (aF s j+1):Nat):Int)
    omega
   ·exact St.bd_node (St.bd_i (St.bd_lay (St.bd_lay (aA HD3) _) _) _ hk2.1) _ (by omega)
  ·rw [if_neg yB] at HG
   have q1:(pk s (aF s j) != 42)=true:=by rw [bne_iff_ne];exact yB
   clear yB
   generalize pk s (aF s j)=a at *
   go_wp2_with fail
   refine (aA HP).mono ?_
   rintro e w3 ⟨rfl,eF,hK3⟩
   go_wp2
   go_ret
   refine ⟨vU.trans hK3,?_⟩
   rw [aA HG]
   exact ⟨by omega,eE.2,k,{st1 with i:=aF s j},rfl,xZ,wF,eF,rfl,(aA HF).2.1,(aA HF).2.2.1,(aA HF).2.2.2.1,V7,by show st1.wn<((aF s j:Nat):Int);omega,aA HD2,aA HN1⟩
end Go.Proofs.YtlljggefbngkeaaGreatDoor
