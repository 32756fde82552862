import Derived.Test.YtlljggefbngkeaaGreatDoorU05
set_option maxRecDepth 100000
set_option maxHeartbeats 3200000
namespace Go.Proofs.YtlljggefbngkeaaGreatDoor
open Go.RowKit
mutual
def enc:PT->List iD->Nat×List iD
 | .chr l,P=>(P.length,P++[⟨99,aE l,[]⟩])
 | .seq l,P=>((bH l P).2.length,(bH l P).2++[⟨115,⟨#[]⟩,(bH l P).1⟩])
 | .alt l,P=>((bH l P).2.length,(bH l P).2++[⟨97,⟨#[]⟩,(bH l P).1⟩])
 | .rep c t,P=>((enc t P).2.length,(enc t P).2++[⟨c,⟨#[]⟩,[(enc t P).1]⟩])
def bH:List PT->List iD->List Nat×List iD
 | [],P=>([],P)
 | t::l,P=>((enc t P).1::(bH l (enc t P).2).1,(bH l (enc t P).2).2)
end
theorem pP (P:List iD):bH [] P=([],P):=by rw [bH]
theorem pO:∀ (l:List PT) (t:PT) (P:List iD),bH (l++[t]) P=((bH l P).1++[(enc t (bH l P).2).1],(enc t (bH l P).2).2)
 | [],t,P=>by simp [bH]
 | u::l,t,P=>by
  rw [List.cons_append,bH,bH,pO l t (enc u P).2];rfl
theorem lK:∀ (l:List PT) (P:List iD),(bH l P).1.length=l.length
 | [],P=>by rw [bH];rfl
 | u::l,P=>by rw [bH,List.length_cons,lK l,List.length_cons]
section
variable (s:ByteArray) (n i:Nat)
theorem e7 (h:pk s i=91):dX s (n+1) i=(cQ s n (i+1) []).map .chr:=by rw [dX,if_pos h]
theorem oP (h:pk s i=40):dX s (n+1) i=(cI s n (i+1)).bind fun l j=>if pk s j=41 then .ok (.alt l) (j+1) else .err j:=by
 rw [dX,if_neg (by rw [h];decide),if_pos h]
theorem G9 {l:List PT} {j:Nat} (h:pk s i=40) (hg:cI s n (i+1) = .ok l j) (h1:pk s j=41):dX s (n+1) i = .ok (.alt l) (j+1):=by
 rw [oP s n i h,hg];simp [cN.bind,h1]
theorem H9 {l:List PT} {j:Nat} (h:pk s i=40) (hg:cI s n (i+1) = .ok l j) (h1:pk s j≠41):dX s (n+1) i = .err j:=by
 rw [oP s n i h,hg];simp [cN.bind,h1]
theorem k7 {p:Nat} (h:pk s i=40) (hg:cI s n (i+1) = .err p):dX s (n+1) i = .err p:=by
 rw [oP s n i h,hg];simp [cN.bind]
theorem G7 (h:bG (pk s i)=true):dX s (n+1) i = .ok (.chr [UInt8.ofNat (pk s i).toNat]) (i+1):=by
 rw [dX,if_neg (by intro e;rw [e] at h;revert h;decide),if_neg (by intro e;rw [e] at h;revert h;decide),if_pos h]
theorem G8 (h1:pk s i≠91) (h2:pk s i≠40) (h:bG (pk s i)=false):dX s (n+1) i = .err i:=by
 rw [dX,if_neg h1,if_neg h2,if_neg (by simp [h])]
end
def WW (Y:Nat->Prop) (b:Nat) (s:ByteArray) (st:St) (c:Int) (e:Ending) (w':World):cN PT->Prop
 | .ok t j=>j<=s.size/\st.i<j/\e = .returned (.int .i64 (enc t st.P).1)/\RH w' Y b s {st.upTo s j with P:=(enc t st.P).2}/\St.bd {st.upTo s j with P:=(enc t st.P).2} c
 | .err p=>(∃ k:Nat,e = .returned (.int .i64 k))/\dH w' Y b s p (c+1)/\st.i<=p
def x8 (c:Int):Bool:=decide (c=41)||decide (c=47)
def LZ (Y:Nat->Prop) (b:Nat) (s:ByteArray) (st:St) (c:Int) (e:Ending) (w':World):cN (List PT)->Prop
 | .ok l j=>j<=s.size/\st.i<=j/\(if x8 (pk s j)=true then e = .returned (.int .i64 (enc (.alt l) st.P).1)/\RH w' Y b s {st.upTo s j with P:=(enc (.alt l) st.P).2}/\St.bd {st.upTo s j with P:=(enc (.alt l) st.P).2} (c+10)
   else (∃ k:Nat,e = .returned (.int .i64 k))/\dH w' Y b s j (c+10))
 | .err p=>(∃ k:Nat,e = .returned (.int .i64 k))/\dH w' Y b s p (c+10)/\st.i<=p
def AD (s:ByteArray) (b:Nat) (i0:Nat):Prop:=
 ∀ (w:World) (Y:Nat->Prop) (st:St) (c:Int),i0<=st.i->RH w Y b s st->st.bad=false->st.i<=s.size->st.bd c->c<=4000->(∀ k,Y k->k<w.heap.size)->∀ n,4*(s.size-st.i)+4<=n->
  Calls Tryz.prog 167 #[.pointer (some ⟨b,0,none⟩)] w fun e w'=>Kp Y w w'/\LZ Y b s st c e w' (cI s n st.i)
def EF (s:ByteArray) (b:Nat) (i0:Nat):Prop:=
 ∀ (w:World) (Y:Nat->Prop) (st:St) (c:Int),i0<=st.i->RH w Y b s st->st.bad=false->st.i<=s.size->st.bd c->c<=4010->(∀ k,Y k->k<w.heap.size)->∀ n,4*(s.size-st.i)+2<=n->
  Calls Tryz.prog 181 #[.pointer (some ⟨b,0,none⟩)] w fun e w'=>Kp Y w w'/\WW Y b s st c e w' (dX s n st.i)
theorem St.up1 (st:St) (s:ByteArray) (h:st.i<s.size):st.took s=st.upTo s (st.i+1):=by
 have:=St.upTo_took st s st.i (Nat.le_refl _) h
 rwa [St.upTo_self] at this
theorem St.upTo_upTo (st:St) (s:ByteArray) (j k:Nat) (h1:st.i<=j) (h2:j<=k) (hk:k<=s.size):(st.upTo s j).upTo s k=st.upTo s k:=by
 simp only [St.upTo]
 congr 1
 rw [ByteArray.append_assoc]
 congr 1
 apply ByteArray.ext
 rw [ByteArray.data_append,ByteArray.data_extract,ByteArray.data_extract,ByteArray.data_extract]
 apply Array.ext
 ·simp;have:s.data.size=s.size:=rfl;omega
 ·intro x hx1 hx2
  have e:s.data.size=s.size:=rfl
  simp at hx1 hx2
  rcases Nat.lt_or_ge x (j-st.i) with h | h
  ·rw [Array.getElem_append_left (by simp;omega)];simp
  ·rw [Array.getElem_append_right (by simp;omega)]
   simp
   congr 1
   omega
theorem O8 (s:ByteArray) (i:Nat):0<=pk s i/\pk s i<=255:=RS s i false
theorem St.bd_lay2 {st:St} {c:Int} {s:ByteArray} (hd:st.bd c) (j:Nat) (kD:st.i<j) (hj:j<=s.size) (p:iD):St.bd {st.upTo s j with P:=st.P++[p]} c:=by
 have:=St.bd_up hd s j kD hj
 unfold St.bd at *
 simp [St.upTo] at *
 omega
theorem St.up_P (st:St) (s:ByteArray) (P:List iD) (j:Nat) (kD:st.i<=j) (hj:j<s.size):St.took {st.upTo s j with P:=P} s={st.upTo s (j+1) with P:=P}:=by
 have:=St.upTo_took st s j kD hj
 rw [St.took_eq (st:=st.upTo s j) (s:=s) hj] at this
 rw [St.took_eq (st:={st.upTo s j with P:=P}) (s:=s) hj]
 rw [← this]
theorem St.bd_step {st:St} {s:ByteArray} {P:List iD} {j:Nat} {c d:Int} (hd:St.bd {st.upTo s j with P:=P} d) (kD:st.i<=j) (hj:j<s.size) (hcd:d<=c+19):St.bd {st.upTo s (j+1) with P:=P} c:=by
 have h1:=St.upTo_out st s j kD (Nat.le_of_lt hj)
 have h2:=St.upTo_out st s (j+1) (by omega) hj
 unfold St.bd at *
 simp only [St.upTo_i,St.upTo_L] at *
 rw [h1] at hd
 rw [h2]
 omega
theorem aB2 {s:ByteArray} {b i0:Nat} (hs:s.size<=120) (L6:AD s b (i0+1)):EF s b i0:=by
 intro w Y st c h0 h hb hi hd hc hY n hn
 obtain ⟨n,rfl⟩:∃ m,n=m+1:=⟨n-1,by omega⟩
 have HP:=aB (J6 h hs hi)
 rw [hb,sE] at HP
 have uD:=O8 s st.i
 have HD:=aB (And.intro hb (And.intro hd L6))
 clear hb hd L6
 by_cases X8:pk s st.i=91
 ·have hlt:st.i<s.size:=bY (by rw [X8];decide)
  have HT:=aB (fun (W:World) (hW:RH W Y b s st)=>oY hW hs hlt (St.out_le hs (by omega) hi (aA HD).2.1) (aA HD).1)
  rw [St.up1 st s hlt] at HT
  have HR:=aB (e7 s n st.i X8)
  rw [X8] at HP
  clear X8
  go_enter Tryz.func181,Tryz.ntmps181
  go_wp2_with (go_at_call 58;refine (aA HP).mono ?_;rintro e w1 ⟨rfl,gJ,cO,XI⟩)
  refine (aA HT _ gJ).mono ?_
  rintro e w2 ⟨rfl,gI,hK2⟩
  go_wp2_with fail
  have OC:∀ k,Y k->k<w2.heap.size:=fun k hk=>by have:=hY k hk;have:=(cO.trans hK2).size;omega
  refine (aGG gI hs (aA HD).1 hlt (St.bd_up (aA HD).2.1 s (st.i+1) (by omega) hlt) (by omega) OC n (by rw [St.upTo_i];omega)).mono ?_
  rintro e w3 ⟨hK3,rL⟩
  rw [St.upTo_i] at rL
  cases hg:cQ s n (st.i+1) [] with
  | ok l j=>
   rw [hg] at rL
   obtain ⟨iS,fR,rfl,eF⟩:=rL
   have EJ:st.i<j:=by rw [St.upTo_i] at fR;omega
   rw [hg] at HR
   clear hg
   go_wp2
   go_ret
   refine ⟨(cO.trans hK2).trans hK3,?_⟩
   rw [aA HR]
   refine ⟨iS,EJ,rfl,?_,?_⟩
   ·rw [St.upTo_upTo st s (st.i+1) j (by omega) (by omega) iS] at eF
    simpa [enc,St.upTo_P] using eF
   ·simpa [enc] using St.bd_lay2 (aA HD).2.1 j EJ iS _
  | err p=>
   rw [hg] at rL
   obtain ⟨⟨k,rfl⟩,⟨st',eF,pL,xJ,V8,fQ⟩,hp⟩:=rL
   rw [hg] at HR
   clear hg
   go_wp2
   go_ret
   refine ⟨(cO.trans hK2).trans hK3,?_⟩
   rw [aA HR]
   exact ⟨⟨k,rfl⟩,⟨st',eF,pL,xJ,V8,St.bd_mono fQ (by omega)⟩,by rw [St.upTo_i] at hp;omega⟩
 ·by_cases lX:pk s st.i=40
  ·have hlt:st.i<s.size:=bY (by rw [lX];decide)
   have HT:=aB (fun (W:World) (hW:RH W Y b s st)=>oY hW hs hlt (St.out_le hs (by omega) hi (aA HD).2.1) (aA HD).1)
   rw [St.up1 st s hlt] at HT
   have H40:=aB lX
   rw [lX] at HP
   clear lX X8
   go_enter Tryz.func181,Tryz.ntmps181
   go_wp2_with (go_at_call 58;refine (aA HP).mono ?_;rintro e w1 ⟨rfl,gJ,cO,XI⟩)
   refine (aA HT _ gJ).mono ?_
   rintro e w2 ⟨rfl,gI,hK2⟩
   go_wp2_with fail
   have OC:∀ k,Y k->k<w2.heap.size:=fun k hk=>by have:=hY k hk;have:=(cO.trans hK2).size;omega
   refine ((aA HD).2.2 w2 Y (st.upTo s (st.i+1)) (c-19) (by rw [St.upTo_i];omega) gI (aA HD).1 hlt (St.bd_up (aA HD).2.1 s (st.i+1) (by omega) hlt) (by omega) OC n (by rw [St.upTo_i];omega)).mono ?_
   rintro e w3 ⟨hK3,rL⟩
   rw [St.upTo_i] at rL
   have sQ:=(cO.trans hK2).trans hK3
   cases hg:cI s n (st.i+1) with
   | ok l j=>
    rw [hg] at rL
    obtain ⟨iS,fR,rL⟩:=rL
    rw [St.upTo_i] at fR
    by_cases lO:pk s j=41
    ·rw [if_pos (by rw [lO];rfl)] at rL
     obtain ⟨rfl,eF,fQ⟩:=rL
     have jY:j<s.size:=bY (by rw [lO];decide)
     rw [St.upTo_upTo st s (st.i+1) j (by omega) (by omega) iS] at eF fQ
     have HE:=aB (fun (W:World) (hW:RH W Y b s _)=>K1 41 hW hs jY (St.out_le hs (by omega) iS fQ) (aA HD).1 lO)
     have HR:=aB (G9 s n st.i (aA H40) hg lO)
     have HBD:=aB fQ
     clear hg lO fQ
     go_wp2_with fail
     refine (aA HE _ eF).mono ?_
     rintro e w4 ⟨rfl,jP,hK4⟩
     go_wp2
     go_ret
     refine ⟨sQ.trans hK4,?_⟩
     rw [aA HR]
     have eT:=St.up_P st s (enc (.alt l) (st.upTo s (st.i+1)).P).2 j (by omega) jY
     rw [eT] at jP
     exact ⟨jY,by omega,rfl,jP,St.bd_step (aA HBD) (by omega) jY (by omega)⟩
    ·have hB:(∃ k:Nat,e = .returned (.int .i64 k))/\∃ st',RH w3 Y b s st'/\st'.i=j/\cE s st'.i st'.bad≠41/\st'.bd (c-9):=by
      by_cases uQ:x8 (pk s j)=true
      ·rw [if_pos uQ] at rL
       exact ⟨⟨_,rL.1⟩,_,rL.2.1,rfl,by show cE s j st.bad≠41;rw [(aA HD).1];exact lO,St.bd_mono rL.2.2 (by omega)⟩
      ·rw [if_neg uQ] at rL
       obtain ⟨hk,st',eF,pL,xJ,V8,fQ⟩:=rL
       exact ⟨hk,st',eF,xJ,by rw [pL,gC];decide,St.bd_mono fQ (by omega)⟩
     obtain ⟨⟨k,rfl⟩,st',eF,xJ,C7,fQ⟩:=hB
     have HE:=aB (fun (W:World) (hW:RH W Y b s _)=>tF 41 hW hs (by rw [xJ];exact iS) C7)
     have HR:=aB (H9 s n st.i (aA H40) hg lO)
     have HBD:=aB (And.intro xJ fQ)
     clear hg lO fQ rL C7 xJ
     go_wp2_with fail
     refine (aA HE _ eF).mono ?_
     rintro e w4 ⟨rfl,jP,hK4⟩
     go_wp2
     go_ret
     refine ⟨sQ.trans hK4,?_⟩
     rw [aA HR]
     exact ⟨⟨k,rfl⟩,⟨_,jP,rfl,(aA HBD).1,iS,St.bd_mono (aA HBD).2 (by omega)⟩,by omega⟩
   | err p=>
    rw [hg] at rL
    obtain ⟨⟨k,rfl⟩,⟨st',eF,pL,xJ,V8,fQ⟩,hp⟩:=rL
    rw [St.upTo_i] at hp
    have HE:=aB (fun (W:World) (hW:RH W Y b s _)=>tF 41 hW hs (by rw [xJ];exact V8) (by rw [pL,gC];decide))
    have HR:=aB (k7 s n st.i (aA H40) hg)
    have HBD:=aB (And.intro xJ fQ)
    clear hg fQ xJ
    go_wp2_with fail
    refine (aA HE _ eF).mono ?_
    rintro e w4 ⟨rfl,jP,hK4⟩
    go_wp2
    go_ret
    refine ⟨sQ.trans hK4,?_⟩
    rw [aA HR]
    exact ⟨⟨k,rfl⟩,⟨_,jP,rfl,(aA HBD).1,V8,St.bd_mono (aA HBD).2 (by omega)⟩,by omega⟩
  ·have q1:(pk s st.i==91)=false:=by simpa using X8
   have q2:(pk s st.i==40)=false:=by simpa using lX
   cases gE:bG (pk s st.i) with
   | true=>
    have hlt:=iY gE
    have HT:=aB (fun (W:World) (hW:RH W Y b s st)=>VZ hW hs hlt (St.out_le hs (by omega) hi (aA HD).2.1) (aA HD).1 gE)
    rw [St.up1 st s hlt,sE] at HT
    have HR:=aB (G7 s n st.i gE)
    clear X8 lX gE
    generalize pk s st.i=a at *
    have hcv:=Z1 a (by omega) (by omega)
    go_enter Tryz.func181,Tryz.ntmps181
    go_wp2_with (go_at_call 58;refine (aA HP).mono ?_;rintro e w1 ⟨rfl,gJ,cO,XI⟩)
    refine (aA HT _ gJ).mono ?_
    rintro e w2 ⟨rfl,gI,hK2⟩
    go_wp2_with fail
    have OC:∀ k,Y k->k<(w2.alloc (.cells #[.int .u8 a] 5)).heap.size:=fun k hk=>by have:=hY k hk;have:=(cO.trans hK2).size;simp;omega
    refine (AL ⟨99,⟨#[UInt8.ofNat a.toNat]⟩,[]⟩ (.slice none 0 0) (gI.alloc _) (St.P_le (st:=st) hs (by omega) hi (aA HD).2.1) OC (World.ownsRow_nil _ _ _ _) (by intro k hk;cases hk)).mono ?_
    rintro e w3 ⟨rfl,eF,hK3⟩
    go_wp2
    go_ret
    refine ⟨((cO.trans hK2).trans (Kp.alloc _ _ _)).trans hK3,?_⟩
    rw [aA HR]
    refine ⟨hlt,by omega,by simp [enc,St.upTo_P],by simpa [enc,aE,St.upTo_P] using eF,?_⟩
    simpa [enc,aE] using St.bd_lay2 (aA HD).2.1 (st.i+1) (by omega) hlt _
   | false=>
    have HT:=aB (fun (W:World) (hW:RH W Y b s st)=>WA hW hs hi (by rw [(aA HD).1,sE];exact gE))
    have HR:=aB (G8 s n st.i X8 lX gE)
    clear X8 lX gE
    generalize pk s st.i=a at *
    have hcv:=Z1 0 (by omega) (by omega)
    go_enter Tryz.func181,Tryz.ntmps181
    go_wp2_with (go_at_call 58;refine (aA HP).mono ?_;rintro e w1 ⟨rfl,gJ,cO,XI⟩)
    refine (aA HT _ gJ).mono ?_
    rintro e w2 ⟨rfl,gI,hK2⟩
    go_wp2_with fail
    have OC:∀ k,Y k->k<(w2.alloc (.cells #[.int .u8 0] 5)).heap.size:=fun k hk=>by have:=hY k hk;have:=(cO.trans hK2).size;simp;omega
    refine (AL ⟨99,⟨#[UInt8.ofNat (0:Int).toNat]⟩,[]⟩ (.slice none 0 0) (gI.alloc _) (St.P_le (st:=st) hs (by omega) hi (aA HD).2.1) OC (World.ownsRow_nil _ _ _ _) (by intro k hk;cases hk)).mono ?_
    rintro e w3 ⟨rfl,eF,hK3⟩
    go_wp2
    go_ret
    refine ⟨((cO.trans hK2).trans (Kp.alloc _ _ _)).trans hK3,?_⟩
    rw [aA HR]
    exact ⟨⟨_,rfl⟩,⟨_,eF,rfl,rfl,hi,St.bd_lay (St.bd_spoil (aA HD).2.1) _⟩,Nat.le_refl _⟩
end Go.Proofs.YtlljggefbngkeaaGreatDoor
