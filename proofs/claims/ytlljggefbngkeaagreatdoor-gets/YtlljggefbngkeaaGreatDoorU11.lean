import Derived.Test.YtlljggefbngkeaaGreatDoorU10
import Derived.BigRegion
import Derived.Test.YtlljggefbngkeaaGreatDoorU08
import Derived.Test.YtlljggefbngkeaaGreatDoorU01
set_option maxRecDepth 100000
set_option maxHeartbeats 3200000
namespace Go.Proofs.YtlljggefbngkeaaGreatDoor
open Go.RowKit
theorem R6 (s:ByteArray) (n i:Nat):bI s (n+1) i=(dT s n i).bind fun t j=>if lA (pk s j) then (bI s n j).map fun x=>(t::x.1,j::x.2) else .ok ([t],[]) j:=by rw [bI]
theorem DG (s:ByteArray) (n i:Nat):aV s (n+1) i=(bI s n (aF s i)).bind fun x j=>if pk s j=124 then (aV s n (j+1)).map fun y=>(joinRow x.1 x.2::y.1,j::y.2) else .ok ([joinRow x.1 x.2],[]) j:=by rw [aV]
theorem I3 (s:ByteArray) (sep:List UInt8):∀ (l:List LT) (t:LT),lY s sep (l++[t])=lY s sep l++(sep++form s t)
 | [],t=>by simp [lY]
 | u::l,t=>by rw [List.cons_append,lY,lY,I3 s sep l t];simp
theorem I4 (s:ByteArray) (sep:List UInt8) (l:List LT) (t:LT) (h:l≠[]):eR s sep (l++[t])=eR s sep l++(sep++form s t):=by
 cases l with
 | nil=>exact absurd rfl h
 | cons u l=>rw [List.cons_append,eR,eR,I3];simp
theorem S2 (s:ByteArray) (sep:List UInt8) (t:LT):eR s sep [t]=form s t:=by rw [eR,lY];simp
theorem sZ:∀ (l:List LT) (t:LT),dQ (l++[t])=dQ l++eX t
 | [],t=>by simp [dQ]
 | u::l,t=>by rw [List.cons_append,dQ,dQ,sZ l t];simp
theorem I9 (t:LT):dQ [t]=eX t:=by rw [dQ,dQ];simp
def MB (sep:List UInt8) (w:World) (Y:Nat->Prop) (b:Nat) (s:ByteArray) (st:St) (c d:Int) (r:cN (List LT×List Nat)) (next:Nat->Nat->cN (List LT×List Nat)) (more:Nat->Bool) (need:Nat) (gk:Nat) (kv:Value) (wv:World):Prop:=
 Kp Y w wv/\∃ k:Nat,kv = .int .i64 k/\
  ((∃ (l:List LT) (ps:List Nat) (j m:Nat) (st':St),l≠[]/\RH wv Y b s st'/\k<st'.L.length/\st.L.length<=st'.L.length/\st'.i=j/\st'.bad=false/\st'.out=st.out++aE (eR s sep l)/\rD st.wn st'.wn (dQ l)/\-1<=st'.wn/\st'.wn<j/\st'.bd (c-10)/\st.i<j/\j<=s.size/\s.size-j<gk/\6*(s.size-j)+need<=m/\(ps.length+1=l.length/\kA st.P st.L st'.P st'.L k (cX (aE9 sep) l ps))/\
   r=if more j then (next m j).map (fun x=>(l++x.1,ps++j::x.2)) else .ok (l,ps) j)\/
  (∃ p,dH wv Y b s p (c+d)/\st.i<=p/\r = .err p))
theorem aBX {s:ByteArray} {b i0:Nat} (hs:s.size<=120) (Q7:EC s b i0):LY s b i0:=by
 intro w Y st c h0 h hb hi hd hc hY hw n hn
 obtain ⟨n,rfl⟩:∃ m,n=m+1:=⟨n-1,by omega⟩
 have HPc:=aB (Q7 w Y st c h0 h hb hi hd (by omega) hY hw n (by omega))
 generalize hr:bI s (n+1) st.i=r
 rw [R6] at hr
 have HD:=aB (And.intro hd Q7)
 clear h hb hd hw Q7
 go_enter Tryz.func57,Tryz.ntmps57
 go_wp2_with fail
 refine (aA HPc).mono ?_
 rintro e w1 ⟨cO,oV⟩
 have H0:(∃ k:Nat,e = .returned (.int .i64 k))/\∀ k:Nat,e = .returned (.int .i64 k)->MB [32] w Y b s st c 14 r (bI s) (fun j=>lA (pk s j)) 4 (s.size+1) (.int .i64 k) w1:=by
  cases hg:dT s n st.i with
  | err p=>
   rw [hg] at oV hr
   obtain ⟨hk,hB,hp⟩:=oV
   exact ⟨hk,fun k _=>⟨cO,k,rfl,Or.inr ⟨p,hB.mono (by omega),hp,hr.symm⟩⟩⟩
  | ok t j=>
   rw [hg] at oV hr
   obtain ⟨iS,fR,k,st1,rfl,xZ,wF,gJ,lW,hb1,D2,dC,V7,GJ,q7,hN1⟩:=oV
   refine ⟨⟨k,rfl⟩,fun k' dS=>?_⟩
   obtain rfl:k=k':=by simp at dS;omega
   refine ⟨cO,k,rfl,Or.inl ⟨[t],[],j,n,st1,by simp,gJ,xZ,wF,lW,hb1,by rw [S2];exact D2,by rw [I9];exact dC,V7,GJ,q7,iS,fR,by omega,by omega,⟨rfl,by rw [nA];exact hN1⟩,?_⟩⟩
   rw [← hr]
   simp only [cN.bind,List.nil_append,List.singleton_append]
 obtain ⟨⟨k,rfl⟩,H0⟩:=H0
 have H1:=aB (H0 k rfl)
 clear H0 oV hr
 have s3:(⟨#[47,126,40]⟩:ByteArray).data.toList=[47,126,40]:=rfl
 have HH:=aB (fun (c:Int) (W:World)=>X2 ⟨#[47,126,40]⟩ c W (by decide))
 rw [s3] at HH
 clear s3
 go_wp2_with fail
 go_loopg [3] (s.size+1) (fun gk kv wv=>MB [32] w Y b s st c 14 r (bI s) (fun j=>lA (pk s j)) 4 gk kv wv)
 case atStart=>exact aA H1
 case round=>
  clear H1
  obtain ⟨hK,k,rfl,sN⟩:=hrel
  rcases sN with ⟨l,ps,j,m,st',hl,hR,xZ,hL,kD,LC,hoj,hwj,WY,hwb,XN,iS,fR,fW,hm,hN,hr⟩ | ⟨p,hB,hp,hr⟩
  ·have HN:=aB hN
   clear hN
   have c2:wr.cell? ⟨b,2,none⟩=some (.bool false):=by rw [hR.c2,LC]
   have HP:=aB (oZ hR hs kD fR LC)
   have HHj:=aB (fun W=>aA HH (pk s j) W)
   cases hat:lA (pk s j) with
   | true=>
    have hb2:oD [47,126,40] (pk s j)=true:=hat
    rw [hb2] at HHj
    simp only [hat,if_true] at hr
    have HF:=aB (And.intro kD (And.intro LC (And.intro hoj (And.intro hwj (And.intro XN hr)))))
    clear hat hb2 kD LC hoj hwj XN hr
    generalize pk s j=a at *
    go_wp2_with (go_at_call 58;refine (aA HP).mono ?_;rintro e w2 ⟨rfl,gI,hK2⟩)
    refine (aA HHj _).mono ?_
    rintro e w2' ⟨rfl,rfl⟩
    have c1:w2'.cell? ⟨b,1,none⟩=some (.int .i64 (j:Nat)):=by rw [gI.c1,(aA HF).1]
    have c4:=gI.c4
    have f4:=gI.fz 4
    have hos:=St.out_le hs (by omega) (by rw [(aA HF).1];exact fR) (aA HF).2.2.2.2.1
    have hno:¬ 9223372036854775807<st'.out.size+1:=by omega
    have vU:=hK.trans hK2
    have eF:=gI.setOut (st'.out++⟨#[32]⟩)
    have hK3:Kp Y w2' (w2'.setCell ⟨b,4,none⟩ (.string (st'.out++⟨#[32]⟩))):=Kp.set _ _ _ _ gI.nb
    have HR3:=aB (And.intro eF hK3)
    clear eF hK3
    go_wp2_with fail
    have sQ:=vU.trans (aA HR3).2
    have i8:St.bd {st' with out:=st'.out++⟨#[32]⟩} (c-9):=by
     have e:(st'.out++(⟨#[32]⟩:ByteArray)).size=st'.out.size+1:=by rw [ByteArray.size_append];rfl
     have:=(aA HF).2.2.2.2.1
     unfold St.bd at *
     simp only [e]
     omega
    obtain ⟨m,rfl⟩:∃ m',m=m'+1:=⟨m-1,by omega⟩
    have HI:=aB ((aA HD).2 _ Y _ (c-9) (by show i0<=st'.i;rw [(aA HF).1];omega) (aA HR3).1 (aA HF).2.1 (by show st'.i<=s.size;rw [(aA HF).1];exact fR) i8 (by omega) (fun k hk=>by have:=hY k hk;have:=sQ.size;omega) ⟨WY,by show st'.wn<(st'.i:Int);rw [(aA HF).1];exact hwb⟩ m (by show 6*(s.size-st'.i)+3<=m;rw [(aA HF).1];omega))
    clear i8
    refine (aA HI).mono ?_
    rintro e w4 ⟨hK4,PY⟩
    have E8:=sQ.trans hK4
    replace PY:MD Y b s _ (c-9) 12 e w4 (dT s m st'.i):=PY
    rw [(aA HF).1] at PY
    have hr:=(aA HF).2.2.2.2.2
    rw [R6] at hr
    clear c1 c4 f4
    cases hg:dT s m j with
    | err p=>
     rw [hg] at PY hr
     obtain ⟨⟨kb,rfl⟩,hB,hp⟩:=PY
     have hp':j<=p:=hp
     have c2:=hB.c2
     have Hr:=aB hr
     clear hg hr hp
     go_wp2_with fail
     go_roundg (s.size-j)
     case measure=>exact fW
     case rel=>exact ⟨E8,k,rfl,Or.inr ⟨p,hB.mono (by omega),by omega,aA Hr⟩⟩
    | ok t j4=>
     rw [hg] at PY hr
     obtain ⟨EJ,hj4,kb,st4,rfl,aEX,hL4,jP,NY,hb4,ho4,hw4,aGN,aGM,hd4,hN4⟩:=PY
     have HN4:=aB hN4
     clear hN4
     have aIU:j<j4:=EJ
     have aJ2:st'.L.length<=st4.L.length:=hL4
     have c2:w4.cell? ⟨b,2,none⟩=some (.bool false):=by rw [jP.c2,hb4]
     simp only [cN.bind] at hr
     have dI:st4.P.length<=99999:=by have:=hd4.2.1;rw [NY] at this;omega
     have UL:st4.L.length<=100000:=by have:=hd4.2.2;rw [NY] at this;omega
     have hka:k<st4.L.length:=by omega
     have HF4:=aB (And.intro NY (And.intro hb4 (And.intro ho4 (And.intro hw4 (And.intro hd4 hr)))))
     clear hg hr EJ NY hb4 ho4 hw4 hd4
     go_wp2_with fail
     refine (Two 114 (by decide) k kb j st4.L[k] st4.L[kb] jP dI UL (fun k hk=>by have:=hY k hk;have:=E8.size;omega) (List.getElem?_eq_getElem hka) (List.getElem?_eq_getElem aEX)).mono ?_
     rintro e w5 ⟨rfl,jV,gL⟩
     go_wp2_with fail
     go_roundg (s.size-j)
     case measure=>exact fW
     case rel=>
      refine ⟨E8.trans gL,st4.L.length,rfl,Or.inl ⟨l++[t],ps++[j],j4,m,_,by simp,jV,by simp,by simp;omega,(aA HF4).1,(aA HF4).2.1,?_,?_,aGN,aGM,?_,by omega,hj4,by omega,by omega,⟨by have:=(aA HN).1;simp;omega,by rw [tL _ _ _ _ _ (aA HN).1];exact kA.two (.inl rfl) j (aA HN).2 (aA HN4) (List.getElem?_eq_getElem hka) (List.getElem?_eq_getElem aEX)⟩,?_⟩⟩
      ·show st4.out=_
       rw [(aA HF4).2.2.1]
       show (st'.out++aE [32])++_=_
       rw [(aA HF).2.2.1,I4 s [32] l t hl]
       simp only [ByteArray.append_assoc,List.append_assoc,← cU]
      ·rw [sZ];exact rD.app (aA HF).2.2.2.1 (aA HF4).2.2.2.1
      ·exact St.bd_two (aA HF4).2.2.2.2.1 _ _ _ (by omega)
      ·rw [(aA HF4).2.2.2.2.2]
       by_cases h5:lA (pk s j4)=true
       ·simp only [h5,if_true,cN.map_map]
        simp
       ·simp only [Bool.not_eq_true] at h5
        simp [h5,cN.map]
   | false=>
    have hb2:oD [47,126,40] (pk s j)=false:=hat
    rw [hb2] at HHj
    simp only [hat,Bool.false_eq_true,if_false] at hr
    have HF:=aB (And.intro kD (And.intro LC (And.intro hoj (And.intro hwj (And.intro XN hr)))))
    clear hat hb2 kD LC hoj hwj XN hr
    generalize pk s j=a at *
    go_wp2_with (go_at_call 58;refine (aA HP).mono ?_;rintro e w2 ⟨rfl,gI,hK2⟩)
    refine (aA HHj _).mono ?_
    rintro e w2' ⟨rfl,rfl⟩
    go_wp2
    go_ret
    refine ⟨hK.trans hK2,?_⟩
    rw [(aA HF).2.2.2.2.2]
    exact ⟨iS,fR,k,st',rfl,xZ,hL,gI,(aA HF).1,(aA HF).2.1,(aA HF).2.2.1,(aA HF).2.2.2.1,WY,hwb,(aA HF).2.2.2.2.1,(aA HN).2⟩
  ·have c2:=hB.c2
   have Hr:=aB hr
   clear hr
   go_wp2
   go_ret
   refine ⟨hK,?_⟩
   rw [aA Hr]
   exact ⟨⟨k,rfl⟩,hB,hp⟩
theorem St.bd_out1 {st:St} {c:Int} (hd:st.bd c) (x:UInt8):St.bd {st with out:=st.out++⟨#[x]⟩} (c+1):=by
 have e:(st.out++(⟨#[x]⟩:ByteArray)).size=st.out.size+1:=by rw [ByteArray.size_append];rfl
 unfold St.bd at *
 simp only [e]
 omega
theorem ZZ {s:ByteArray} {b i0:Nat} (hs:s.size<=120) (hrow:LY s b i0):J8 s b i0:=by
 intro w Y st c h0 h hb hi hd hc hY hw n hn
 obtain ⟨n,rfl⟩:∃ m,n=m+1:=⟨n-1,by omega⟩
 generalize hr:aV s (n+1) st.i=r
 rw [DG] at hr
 have lW:=dK s st.i hi
 have HB:=aB (qQ h hs hi hb)
 have HD:=aB (And.intro hb (And.intro hd (And.intro hw (And.intro hrow hr))))
 clear h hb hd hw hrow hr
 go_enter Tryz.func43,Tryz.ntmps43
 go_wp2_with fail
 refine (aA HB).mono ?_
 rintro e w1 ⟨rfl,gJ,cO⟩
 go_wp2_with fail
 refine ((aA HD).2.2.2.1 w1 Y _ c (by show i0<=aF s st.i;omega) gJ (aA HD).1 lW.2 (St.bd_i (aA HD).2.1 _ lW.1) (by omega) (fun k hk=>by have:=hY k hk;have:=cO.size;omega) ⟨(aA HD).2.2.1.1,by have:=(aA HD).2.2.1.2;show st.wn<((aF s st.i:Nat):Int);omega⟩ n (by show 6*(s.size-aF s st.i)+4<=n;omega)).mono ?_
 rintro e w2 ⟨hK2,fN⟩
 have vU:=cO.trans hK2
 replace fN:tD [32] Y b s _ c 14 e w2 (bI s n (aF s st.i)):=fN
 have hr:=(aA HD).2.2.2.2
 have H0:(∃ k:Nat,e = .returned (.int .i64 k))/\∀ k:Nat,e = .returned (.int .i64 k)->MB [32,124,32] w Y b s st c 18 r (fun m j=>aV s m (j+1)) (fun j=>decide (pk s j=124)) 4 (s.size+1) (.int .i64 k) w2:=by
  cases hg:bI s n (aF s st.i) with
  | err p=>
   rw [hg] at fN hr
   obtain ⟨hk,hB,hp⟩:=fN
   have hp':aF s st.i<=p:=hp
   exact ⟨hk,fun k _=>⟨vU,k,rfl,Or.inr ⟨p,hB.mono (by omega),by omega,hr.symm⟩⟩⟩
  | ok x j=>
   rw [hg] at fN hr
   obtain ⟨iS,fR,k,st1,rfl,xZ,wF,gJ,aHA,hb1,D2,dC,V7,GJ,q7,hN1⟩:=fN
   have aF2:aF s st.i<j:=iS
   refine ⟨⟨k,rfl⟩,fun k' dS=>?_⟩
   obtain rfl:k=k':=by simp at dS;omega
   refine ⟨vU,k,rfl,Or.inl ⟨[joinRow x.1 x.2],[],j,n,st1,by simp,gJ,xZ,wF,aHA,hb1,by rw [S2,xQ];exact D2,by rw [I9,uS];exact dC,V7,GJ,q7,by omega,fR,by omega,by omega,⟨rfl,by rw [nA,zT];exact hN1⟩,?_⟩⟩
   rw [← hr]
   simp only [cN.bind,List.nil_append,List.singleton_append,decide_eq_true_eq]
 obtain ⟨⟨k,rfl⟩,H0⟩:=H0
 have H1:=aB (H0 k rfl)
 clear H0 fN hr
 go_wp2_with fail
 go_loopg [3] (s.size+1) (fun gk kv wv=>MB [32,124,32] w Y b s st c 18 r (fun m j=>aV s m (j+1)) (fun j=>decide (pk s j=124)) 4 gk kv wv)
 case atStart=>exact aA H1
 case round=>
  clear H1
  obtain ⟨hK,k,rfl,sN⟩:=hrel
  rcases sN with ⟨l,ps,j,m,st',hl,hR,xZ,hL,kD,LC,hoj,hwj,WY,hwb,XN,iS,fR,fW,hm,hN,hr⟩ | ⟨p,hB,hp,hr⟩
  ·have HN:=aB hN
   clear hN
   have c2:wr.cell? ⟨b,2,none⟩=some (.bool false):=by rw [hR.c2,LC]
   have HP:=aB (oZ hR hs kD fR LC)
   by_cases mF:pk s j=124
   ·simp only [mF,decide_true,if_true] at hr
    have jY:j<s.size:=bY (by rw [mF];decide)
    have hj5:=dK s (j+1) jY
    have i8:=St.bd_out1 XN 32
    have HT:=aB (fun (W:World) (hW:RH W Y b s _)=>LU (st:={st' with out:=st'.out++⟨#[32]⟩}) 124 hW hs kD jY (St.out_le (c:=c-9) hs (by omega) (by rw [kD];exact fR) (St.bd_mono i8 (by omega))) LC mF)
    have hd4:St.bd {st' with i:=j+1,out:=st'.out++⟨#[32]⟩++aE [124]} (c-28):=by
     have:=St.bd_took (st:={st' with out:=st'.out++⟨#[32]⟩}) (d:=c-28) i8 [124] 1 rfl (by omega) (by omega)
     rw [kD] at this
     exact this
    have hd5:=St.bd_out1 hd4 32
    have hos:=St.out_le (c:=c-10) hs (by omega) (by rw [kD];exact fR) XN
    have aIH:(st'.out++⟨#[32]⟩++aE [124]).size<=100000:=St.out_le (st:={st' with i:=j+1,out:=st'.out++⟨#[32]⟩++aE [124]}) (c:=c-28) hs (by omega) jY hd4
    obtain ⟨m,rfl⟩:∃ m',m=m'+1:=⟨m-1,by omega⟩
    rw [DG] at hr
    rw [mF] at HP
    have HF:=aB (And.intro kD (And.intro LC (And.intro hoj (And.intro hwj (And.intro hd5 hr)))))
    clear mF kD LC hoj hwj XN hr i8 hd4 hd5
    go_wp2_with fail
    refine (aA HP).mono ?_
    rintro e w2 ⟨rfl,gI,hK2⟩
    have c1:w2.cell? ⟨b,1,none⟩=some (.int .i64 (j:Nat)):=by rw [gI.c1,(aA HF).1]
    have c4:=gI.c4
    have f4:=gI.fz 4
    have hno:¬ 9223372036854775807<st'.out.size+1:=by omega
    have vU:=hK.trans hK2
    have eF:=gI.setOut (st'.out++⟨#[32]⟩)
    have hK3:Kp Y w2 (w2.setCell ⟨b,4,none⟩ (.string (st'.out++⟨#[32]⟩))):=Kp.set _ _ _ _ gI.nb
    have HR3:=aB (And.intro eF hK3)
    clear eF hK3
    go_wp2_with fail
    have sQ:=vU.trans (aA HR3).2
    refine (aA HT _ (aA HR3).1).mono ?_
    rintro e w4 ⟨⟨x,rfl⟩,jP,hK4⟩
    have E8:=sQ.trans hK4
    have d4:w4.cell? ⟨b,4,none⟩=some (.string (st'.out++⟨#[32]⟩++aE [124])):=jP.c4
    have g4:=jP.fz 4
    have aGZ:¬ 9223372036854775807<(st'.out++⟨#[32]⟩++aE [124]).size+1:=by omega
    have jV:=jP.setOut (st'.out++⟨#[32]⟩++aE [124]++⟨#[32]⟩)
    have gL:Kp Y w4 (w4.setCell ⟨b,4,none⟩ (.string (st'.out++⟨#[32]⟩++aE [124]++⟨#[32]⟩))):=Kp.set _ _ _ _ jP.nb
    have HR5:=aB (And.intro jV gL)
    clear jV gL c1 c4 f4 hno
    generalize hoo:st'.out++⟨#[32]⟩++aE [124]=oo at *
    have Hoo:=aB hoo
    clear hoo
    go_wp2_with fail
    have CY:=E8.trans (aA HR5).2
    refine (qQ (aA HR5).1 hs jY (aA HF).2.1).mono ?_
    rintro e w6 ⟨rfl,rK,uK⟩
    have OG:=CY.trans uK
    clear d4 g4 aGZ
    go_wp2_with fail
    refine ((aA HD).2.2.2.1 w6 Y _ (c-27) (by show i0<=aF s (j+1);omega) rK (aA HF).2.1 hj5.2 (St.bd_mono (St.bd_i (aA HF).2.2.2.2.1 _ hj5.1) (by omega)) (by omega) (fun k hk=>by have:=hY k hk;have:=OG.size;omega) ⟨WY,by show st'.wn<((aF s (j+1):Nat):Int);omega⟩ m (by show 6*(s.size-aF s (j+1))+4<=m;omega)).mono ?_
    rintro e w7 ⟨rM,hP7⟩
    have X7:=OG.trans rM
    replace hP7:tD [32] Y b s _ (c-27) 14 e w7 (bI s m (aF s (j+1))):=hP7
    have hr:=(aA HF).2.2.2.2.2
    cases hg:bI s m (aF s (j+1)) with
    | err p=>
     rw [hg] at hP7 hr
     obtain ⟨⟨kb,rfl⟩,hB,hp⟩:=hP7
     have hp':aF s (j+1)<=p:=hp
     have e2:=hB.c2
     have Hr:=aB hr
     clear hg hr hp
     go_wp2_with fail
     go_roundg (s.size-j)
     case measure=>exact fW
     case rel=>exact ⟨X7,k,rfl,Or.inr ⟨p,hB.mono (by omega),by omega,aA Hr⟩⟩
    | ok y j8=>
     rw [hg] at hP7 hr
     obtain ⟨hj7,hj8,kb,st8,rfl,TU,hL8,uJ,PS,XQ,ho8,hw8,aC7,aEE,XO,hN8⟩:=hP7
     have HN8:=aB hN8
     clear hN8
     have aIT:aF s (j+1)<j8:=hj7
     have aHN:st'.L.length<=st8.L.length:=hL8
     have e2:w7.cell? ⟨b,2,none⟩=some (.bool false):=by rw [uJ.c2,XQ]
     simp only [cN.bind] at hr
     have dI:st8.P.length<=99999:=by have:=XO.2.1;rw [PS] at this;omega
     have UL:st8.L.length<=100000:=by have:=XO.2.2;rw [PS] at this;omega
     have hka:k<st8.L.length:=by omega
     have YD:=aB (And.intro PS (And.intro XQ (And.intro ho8 (And.intro hw8 (And.intro XO hr)))))
     clear hg hr hj7 PS XQ ho8 hw8 XO
     go_wp2_with fail
     refine (Two 124 (by decide) k kb j st8.L[k] st8.L[kb] uJ dI UL (fun k hk=>by have:=hY k hk;have:=X7.size;omega) (List.getElem?_eq_getElem hka) (List.getElem?_eq_getElem TU)).mono ?_
     rintro e w9 ⟨rfl,UI,hK9⟩
     go_wp2_with fail
     go_roundg (s.size-j)
     case measure=>exact fW
     case rel=>
      refine ⟨X7.trans hK9,st8.L.length,rfl,Or.inl ⟨l++[joinRow y.1 y.2],ps++[j],j8,m,_,by simp,UI,by simp,by simp;omega,(aA YD).1,(aA YD).2.1,?_,?_,aC7,aEE,St.bd_two (aA YD).2.2.2.2.1 _ _ _ (by omega),by omega,hj8,by omega,by omega,⟨by have:=(aA HN).1;simp;omega,by rw [tL _ _ _ _ _ (aA HN).1,zT];exact kA.two (.inr (.inl rfl)) j (aA HN).2 (aA HN8) (List.getElem?_eq_getElem hka) (List.getElem?_eq_getElem TU)⟩,?_⟩⟩
      ·show st8.out=_
       rw [(aA YD).2.2.1]
       show (oo++aE [32])++_=_
       rw [← aA Hoo]
       show (st'.out++aE [32]++aE [124]++aE [32])++_=_
       rw [(aA HF).2.2.1,I4 s [32,124,32] l _ hl,xQ]
       simp only [ByteArray.append_assoc,List.append_assoc,← cU]
       rfl
      ·rw [sZ,uS];exact rD.app (aA HF).2.2.2.1 (aA YD).2.2.2.1
      ·rw [(aA YD).2.2.2.2.2]
       by_cases h5:pk s j8=124
       ·simp only [h5,decide_true,if_true,cN.map_map]
        simp
       ·simp [h5,cN.map]
   ·simp only [mF,decide_false,Bool.false_eq_true,if_false] at hr
    have q1:(pk s j==124)=false:=by simpa using mF
    have HF:=aB (And.intro kD (And.intro LC (And.intro hoj (And.intro hwj (And.intro XN hr)))))
    clear mF kD LC hoj hwj XN hr
    generalize pk s j=a at *
    go_wp2_with fail
    refine (aA HP).mono ?_
    rintro e w2 ⟨rfl,gI,hK2⟩
    go_wp2
    go_ret
    refine ⟨hK.trans hK2,?_⟩
    rw [(aA HF).2.2.2.2.2]
    exact ⟨iS,fR,k,st',rfl,xZ,hL,gI,(aA HF).1,(aA HF).2.1,(aA HF).2.2.1,(aA HF).2.2.2.1,WY,hwb,(aA HF).2.2.2.2.1,(aA HN).2⟩
  ·have c2:=hB.c2
   have Hr:=aB hr
   clear hr
   go_wp2
   go_ret
   refine ⟨hK,?_⟩
   rw [aA Hr]
   exact ⟨⟨k,rfl⟩,hB,hp⟩
theorem CD (s:ByteArray) (b:Nat) (hs:s.size<=120):∀ d i0,s.size+1-i0<=d->J8 s b i0
 | 0,i0,h=>by
  intro w Y st c h0 _ _ hi
  omega
 | d+1,i0,h=>ZZ hs (aBX hs (aA3 hs (RQ hs (CD s b hs d (i0+1) (by omega)))))
structure GM (w:World) (g:Nat) (P:List iD) (L:List lS) (k:Nat) (f:ByteArray) (gp cap gl cl:Nat) (xs:List Value):Prop where
 blk:w.heap[g]? = some (.cells #[.slice (some ⟨gp,0,none⟩) P.length cap,.slice (some ⟨gl,0,none⟩) L.length cl,.int .i64 k,.string f] 28 (0,0))
 pm:PM w gp cap P xs
 own:w.ownsRow 0 35 8 (.slice (some ⟨gl,0,none⟩) L.length cl) L.length (L.flatMap aQ)
theorem GM.k0 {w w':World} {g:Nat} {P:List iD} {L:List lS} {k:Nat} {f:ByteArray} {gp cap gl cl:Nat} {xs:List Value} (h:GM w g P L k f gp cap gl cl xs) (hk:K0 w w'):GM w' g P L k f gp cap gl cl xs where
 blk:=(hk.heap (aD h.blk)).trans h.blk
 pm:=h.pm.k0 hk
 own:=aI h.own fun k e=>hk.heap (aJ h.own k e)
def AF (w:World) (g:Nat) (b:BT):Prop:=∃ P L k f gp cap gl cl xs,GM w g P L k f gp cap gl cl xs/\P.length<=90000/\L.length<=90000/\kA [] [] P L k b
theorem dJ.lt {P:List iD} {t:PT} {k:Nat} (h:dJ P t k):k<P.length:=by
 have key:∀ p,P[k]? = some p->k<P.length:=fun p h=>(List.getElem?_eq_some_iff.1 h).1
 cases t with
 | chr l=>rw [dJ] at h;exact key _ h
 | seq l=>rw [dJ] at h;obtain ⟨ks,h,_⟩:=h;exact key _ h
 | alt l=>
  rw [dJ] at h
  rcases h with ⟨ks,h,_⟩ | ⟨v,_,_,h⟩
  ·exact key _ h
  ·exact key _ h
 | rep c t=>rw [dJ] at h;obtain ⟨_,j,h,_⟩:=h;exact key _ h
def T2 (w:World) (s:ByteArray) (e:Ending) (w':World):Prop:=
 K0 w w' /\
 ((120<s.size/\e = .returned (.tuple #[.pointer none,.int .i64 1,.int .i64 0]))\/
  (s.size<=120/\match aV s (6*s.size+5) 0 with
   | .err p=>e = .returned (.tuple #[.pointer none,.int .i64 2,.int .i64 (p:Int)])
   | .ok x j=>(j<s.size/\e = .returned (.tuple #[.pointer none,.int .i64 2,.int .i64 (j:Int)]))\/
    (j=s.size/\∃ o,cC (dQ x.1) o/\match o with
     | some a=>e = .returned (.tuple #[.pointer none,.int .i64 3,.int .i64 (a:Int)])
     | none=>∃ g,e = .returned (.tuple #[.pointer (some ⟨g,0,none⟩),.int .i64 0,.int .i64 0])/\w'.cell? ⟨g,3,none⟩=some (.string (aE (eR s [32,124,32] x.1)))/\AF w' g (cX 124 x.1 x.2))))
theorem K0.of_new {w w1:World} {o:Obj} (h:Kp (fun k=>k<w.heap.size) (w.alloc o) w1):K0 w w1:=by
 have hs:=h.size
 simp at hs
 refine ⟨h.os,h.tape,h.output,by omega,fun k hk _=>?_⟩
 rw [h.block k (by simp;omega) hk,Below.heap_alloc _ _ _ hk]
theorem FR (s:ByteArray) (w:World) (hs:120<s.size) (hm:s.size<=maxLen):
  Calls Tryz.prog 28 #[.string s] w fun e w'=>T2 w s e w':=by
 unfold maxLen at hm
 have hsi:(120:Int)<(s.size:Int):=by omega
 go_enter Tryz.func28,Tryz.ntmps28
 go_wp2
 go_ret3
 exact ⟨K0.refl _,Or.inl ⟨hs,rfl⟩⟩
theorem zY (s:ByteArray) (w:World) (hs:s.size<=120):
  Calls Tryz.prog 28 #[.string s] w fun e w'=>T2 w s e w':=by
 have hsi:¬ (120:Int)<(s.size:Int):=by omega
 have h0:RH (w.alloc (eM s 0 false (-1) ⟨#[]⟩ (.slice none 0 0) (.slice none 0 0))) (fun k=>k<w.heap.size) w.heap.size s ⟨0,false,-1,⟨#[]⟩,[],[]⟩:=by
  refine ⟨.slice none 0 0,.slice none 0 0,[],?_⟩
  exact {
   blk:=heap_alloc_new w _
   ownP:=World.ownsRow_nil _ _ _ _
   ownL:=World.ownsRow_nil _ _ _ _
   subs:=fun j p hp=>by simp at hp
   nb:=Nat.lt_irrefl _
   np:=fun k hk=>by cases hk
   nl:=fun k hk=>by cases hk}
 have HL:=aB (CD s w.heap.size hs (s.size+1) 0 (by omega) _ (fun k=>k<w.heap.size) _ 100 (Nat.zero_le _) h0 rfl (Nat.zero_le _) (by refine ⟨?_,?_,?_⟩ <;> decide) (by omega) (fun k hk=>by simp;omega) (by simp) (6*s.size+5) (by simp))
 clear h0
 go_enter Tryz.func28,Tryz.ntmps28
 go_wp2_with fail
 refine (aA HL).mono ?_
 rintro e w1 ⟨cO,oV⟩
 replace oV:tD [32,124,32] _ w.heap.size s _ 100 18 e w1 (aV s (6*s.size+5) 0):=oV
 have hK:=K0.of_new cO
 cases hg:aV s (6*s.size+5) 0 with
 | err p=>
  rw [hg] at oV
  obtain ⟨⟨k,rfl⟩,hB,_⟩:=oV
  have c1:=hB.c1
  have c2:=hB.c2
  have Hg:=aB hg
  clear hg cO
  go_wp2_with fail
  go_quiet (fail)
  go_wp2
  go_ret3
  refine ⟨hK.drewN _,Or.inr ⟨hs,?_⟩⟩
  rw [aA Hg]
  rfl
 | ok x j=>
  rw [hg] at oV
  obtain ⟨_,fR,k,st1,rfl,xZ,_,gJ,lW,hb1,D2,dC,V7,GJ,q7,hN1⟩:=oV
  have HN1:=aB hN1
  clear hN1
  have c1:w1.cell? ⟨w.heap.size,1,none⟩=some (.int .i64 (j:Nat)):=by rw [gJ.c1,lW]
  have c2:w1.cell? ⟨w.heap.size,2,none⟩=some (.bool false):=by rw [gJ.c2,hb1]
  have c3:=gJ.c3
  have c4:w1.cell? ⟨w.heap.size,4,none⟩=some (.string (aE (eR s [32,124,32] x.1))):=by
   rw [gJ.c4,D2]
   congr 2
  have Hg:=aB (And.intro hg (And.intro dC (And.intro hb1 (And.intro lW q7))))
  clear hg cO dC hb1 lW q7 D2
  by_cases jY:j<s.size
  ·have q1:decide ((j:Int)<(s.size:Int))=true:=by simp;omega
   go_wp2_with fail
   go_quiet (fail)
   go_wp2
   go_ret3
   refine ⟨hK.drewN _,Or.inr ⟨hs,?_⟩⟩
   rw [(aA Hg).1]
   exact Or.inl ⟨jY,rfl⟩
  ·have q1:decide ((j:Int)<(s.size:Int))=false:=by simp;omega
   obtain rfl:j=s.size:=by omega
   obtain ⟨_,o,ho,hwo⟩:=(aA Hg).2.1.1 (by show (-1:Int)<0;decide)
   cases o with
   | some a=>
    have TE:st1.wn=(a:Int):=hwo
    rw [TE] at c3
    have Ho:=aB ho
    have q2:decide ((0:Int)<=(a:Int))=true:=by simp
    clear ho hwo TE V7 GJ
    go_wp2_with fail
    go_quiet (fail)
    go_wp2
    go_ret3
    refine ⟨hK.drewN _,Or.inr ⟨hs,?_⟩⟩
    rw [(aA Hg).1]
    exact Or.inr ⟨rfl,some a,aA Ho,rfl⟩
   | none=>
    have TE:st1.wn = -1:=hwo
    rw [TE] at c3
    have Ho:=aB ho
    clear ho hwo TE V7 GJ
    obtain ⟨lx,_,hlx⟩:=(aA HN1).2.2.1.node
    have dI:0<st1.P.length:=by have:=hlx.2.1.lt;omega
    have fQ:=(aA Hg).2.2.2.2
    have lW:=(aA Hg).2.2.2.1
    have hb1:=(aA Hg).2.2.1
    have hbl:=gJ.lt
    obtain ⟨pv,lv,xs,PZ⟩:=gJ
    obtain ⟨gp,cap,rfl,_,_⟩:=PZ.ownP.form dI
    obtain ⟨gl,cl,rfl,_,_⟩:=PZ.ownL.form (by omega)
    have c5:w1.cell? ⟨w.heap.size,5,none⟩=some (.slice (some ⟨gp,0,none⟩) st1.P.length cap):=by rw [aC PZ.blk];rfl
    have c6:w1.cell? ⟨w.heap.size,6,none⟩=some (.slice (some ⟨gl,0,none⟩) st1.L.length cl):=by rw [aC PZ.blk];rfl
    have aFI:st1.P.length<=90000/\st1.L.length<=90000:=by
     obtain ⟨_,b2,b3⟩:=fQ
     rw [lW] at b2 b3
     omega
    have HO:=aB PZ
    clear PZ fQ lW hb1 hlx
    go_wp2_with fail
    go_region
    go_wp2
    go_ret3
    have hkz:K0 w1 ((w1.alloc (.cells #[.slice (some ⟨gp,0,none⟩) st1.P.length cap,.slice (some ⟨gl,0,none⟩) st1.L.length cl,.int .i64 k,.string (aE (eR s [32,124,32] x.1))] 28)).drew):=Kp.trans (Kp.alloc _ _ _) (Kp.drew _ _)
    refine ⟨(K0.trans hK (Kp.alloc _ _ _)).drew,Or.inr ⟨hs,?_⟩⟩
    rw [(aA Hg).1]
    refine Or.inr ⟨rfl,none,aA Ho,w1.heap.size,rfl,by simp,st1.P,st1.L,k,aE (eR s [32,124,32] x.1),gp,cap,gl,cl,xs,?_,aFI.1,aFI.2,aA HN1⟩
    exact {
     blk:=heap_alloc_new w1 _
     pm:=⟨aI (aA HO).ownP fun k e=>hkz.heap (aJ (aA HO).ownP k e),fun j p hp=>by
      obtain ⟨v,h1,h2,h3,h4,h5⟩:=(aA HO).subs j p hp
      exact ⟨v,h1,h2,h3,aI h4 (fun k e=>hkz.heap (aJ h4 k e)),fun _ _ h=>h⟩⟩
     own:=aI (aA HO).ownL fun k e=>hkz.heap (aJ (aA HO).ownL k e)}
theorem gin {w:World} {gg gp cap:Nat} {P:List iD} {xs:List Value} {k:Nat} {t:PT} {d:ByteArray} (hg:w.cell? ⟨gg,0,none⟩=some (.slice (some ⟨gp,0,none⟩) P.length cap)) (oA:PM w gp cap P xs) (dI:P.length<=100000) (dO:dJ P t k) (PI:wf t=true) (hd:d.size<=200000000):
  Calls Tryz.prog 30 #[.pointer (some ⟨gg,0,none⟩),.int .i64 k,.string d] w fun e w'=>WP w t d e w':=by
 have HI:=aB (V5 oA dI dO PI hd)
 clear oA dO PI
 go_enter Tryz.func30,Tryz.ntmps30
 go_wp2_with fail
 refine (aA HI).mono ?_
 rintro e w1 ⟨x,rfl,hx,hK⟩
 have HX:=aB (And.intro hx hK)
 clear hx hK
 go_wp2
 go_ret
 exact ⟨x,rfl,(aA HX).1,(aA HX).2⟩
def cnt (q:Nat->Bool):Nat->Nat
 | 0=>0
 | m+1=>cnt q m+(if q m then 1 else 0)
def gT (q:Nat->Bool):Nat->Int
 | 0 => -1
 | m+1=>if q m=true/\gT q m<0 then (m:Int) else gT q m
theorem VM (q:Nat->Bool):∀ m,cnt q m<=m
 | 0=>Nat.le_refl _
 | m+1=>by
  have:=VM q m
  rw [cnt]
  split <;> omega
theorem sW (q:Nat->Bool):∀ m,-1<=gT q m/\gT q m<(m:Int)
 | 0=>by rw [gT];omega
 | m+1=>by
  have:=sW q m
  rw [gT]
  split <;> omega
def JF (ta tb:PT) (d:List UInt8) (q:Nat->Bool):Prop:=∀ i,q i=true↔M ta (fP d 0 i)/\M tb (fP d i d.length)
def JQ (w:World) (d:ByteArray) (q:Nat->Bool) (e:Ending) (w':World):Prop:=
 e = .returned (.tuple #[.int .i64 ((min (cnt q (d.size+1)) 2:Nat):Int),.int .i64 (gT q (d.size+1))])/\K0 w w'
theorem aCX {w:World} {gg gp cap:Nat} {P:List iD} {xs:List Value} {ka kb:Nat} {ta tb:PT} {d:ByteArray} {q:Nat->Bool} (hq:JF ta tb d.data.toList q) (hg:w.cell? ⟨gg,0,none⟩=some (.slice (some ⟨gp,0,none⟩) P.length cap)) (oA:PM w gp cap P xs) (dI:P.length<=100000)
  (hra:dJ P ta ka) (WY:wf ta=true) (GO:dJ P tb kb) (hwb:wf tb=true) (hd:d.size<=200000000):
  Calls Tryz.prog 29 #[.pointer (some ⟨gg,0,none⟩),.int .i64 ka,.int .i64 kb,.string d] w fun e w'=>JQ w d q e w':=by
 obtain ⟨i0,jO,hz0,hz1,hz2⟩:=info_parts Tryz.infoBool
 have eC:gg<w.heap.size:=World.block_lt_of_cell? w ⟨gg,0,none⟩ hg
 have HB:=aB (And.intro oA (And.intro hra (And.intro (sX ta WY) (And.intro GO (And.intro hwb (And.intro hq hg))))))
 have hds:(d.size:Int)<(d.size:Int)+1:=by omega
 clear oA hra WY GO hwb hq
 go_enter Tryz.func29,Tryz.ntmps29
 go_wp2_with (at_make;refine wpList_make_full _ rfl _ _ 77 rfl 0 4 i0 (.bool false) 1 Tryz.underlying77 jO hz0 hz1 _ _ _ _ (d.size+1) rfl rfl (by simp) (by simp) (by rw [hz2];omega) (by unfold maxLen;omega) (by omega) ?_)
 intro w1 hown hgrow
 have gJ:=BR.made hown
 have cO:K0 w w1:=Kp.of_grown hgrow (fun _ e=>by cases e)
 have hc0:=gJ.cell 0 (by omega)
 have XM:=gJ.fz 0
 have gI:=gJ.set 0 true
 have hK2:=cO.set (Nat.le_refl _) 0 (.bool true)
 have hg2:(w1.setCell ⟨w.heap.size,0,none⟩ (.bool true)).cell? ⟨gg,0,none⟩=some (.slice (some ⟨gp,0,none⟩) P.length cap):=by
  rw [World.cell?_of_block (w:=w) (hK2.heap eC)]
  exact hg
 have HE:=aB ((aA HB).2.2.1 _ gp cap P xs ka d _ _ _ ((aA HB).1.k0 hK2) dI (aA HB).2.1 gI (by omega))
 have HK:=aB hK2
 clear gJ cO gI hK2 hown hgrow hg
 go_wp2_with fail
 refine (aA HE).mono ?_
 rintro e w3 ⟨g3,c3,f3,rfl,eF,M1,hK3,_,_⟩
 have HK3:=aB (And.intro ((aA HK).trans hK3) (And.intro eF M1))
 clear eF M1 hK3 hc0 XM hg2
 go_wp2_with fail
 go_loopg [10,11,14] (d.size+2) (fun gk nv av iv wv=>∃ m:Nat,iv = .int .i64 (m:Int)/\nv = .int .i64 (cnt q m:Int)/\av = .int .i64 (gT q m)/\m<=d.size+1/\d.size+1-m<gk/\K0 w wv/\BR wv g3 (d.size+1) c3 f3)
 case atStart=>exact ⟨0,rfl,rfl,rfl,Nat.zero_le _,by omega,(aA HK3).1,(aA HK3).2.1⟩
 case round=>
  obtain ⟨m,rfl,rfl,rfl,hm,fW,hK,hR⟩:=hrel
  have hcb:=VM q m
  have hfb:=sW q m
  have dC:IntKind.i64.wrap ((m:Int)+1)=(m:Int)+1:=IntWalk.i64_in _ (by omega)
  have hw2:IntKind.i64.wrap ((cnt q m:Int)+1)=(cnt q m:Int)+1:=IntWalk.i64_in _ (by omega)
  by_cases hlt:m<=d.size
  ·have q7:(m:Int)<=(d.size:Int):=by omega
   have lV:(m:Int)<(d.size:Int)+1:=by omega
   have cl:=hR.cell m (by omega)
   have yY:wr.cell? ⟨gg,0,none⟩=some (.slice (some ⟨gp,0,none⟩) P.length cap):=by
    rw [World.cell?_of_block (w:=w) (hK.heap eC)]
    exact (aA HB).2.2.2.2.2.2
   have HI:=aB (gin (d:=d.extract m d.size) yY ((aA HB).1.k0 hK) dI (aA HB).2.2.2.1 (aA HB).2.2.2.2.1 (by simp;omega))
   have l9:=aB (And.intro hK hR)
   clear hK hR yY
   have hqm:∀ x:Bool,(x=true↔M tb (d.extract m d.size).data.toList)->(f3 m&&x)=q m:=by
    intro x hx
    have h1:=(aA HK3).2.2 m (by simpa using hlt)
    have h2:f3 m=true↔M ta (fP d.data.toList 0 m):=by
     rw [h1]
     constructor
     ·rintro ⟨i,hi,hu,hm⟩
      have:i=0:=by
       unfold K8 at hu
       by_cases h:i=0
       ·exact h
       ·rw [if_neg h] at hu;cases hu
      subst this
      exact hm
     ·intro hm
      exact ⟨0,Nat.zero_le _,rfl,hm⟩
    have h3:(d.extract m d.size).data.toList=fP d.data.toList m d.data.toList.length:=by simp [fP,ByteArray.data_extract]
    rw [Bool.eq_iff_iff,Bool.and_eq_true,h2,hx,h3,(aA HB).2.2.2.2.2.1 m]
   have HQ:=aB hqm
   clear hqm
   cases hf:f3 m with
   | true=>
    rw [hf] at cl HQ
    clear hf
    go_wp2_with fail
    refine (aA HI).mono ?_
    rintro e w4 ⟨x,rfl,hx,hK4⟩
    have hxq:=aA HQ x hx
    rw [Bool.true_and] at hxq
    have HN:=aB (And.intro hxq (And.intro ((aA l9).1.trans hK4) ((aA l9).2.k0 hK4)))
    clear hx hK4 hxq HQ HI cl
    cases x with
    | true=>
     by_cases aH0:gT q m<0
     ·go_wp2_with fail
      go_roundg (gk-1)
      case measure=>omega
      case rel=>
       have mB:=(aA HN).1.symm
       exact ⟨m+1,by go_num,by rw [cnt,mB];simp,by rw [gT,if_pos ⟨mB,aH0⟩],by omega,by omega,(aA HN).2.1,(aA HN).2.2⟩
     ·go_wp2_with fail
      go_roundg (gk-1)
      case measure=>omega
      case rel=>
       have mB:=(aA HN).1.symm
       exact ⟨m+1,by go_num,by rw [cnt,mB];simp,by rw [gT,if_neg (fun h=>by omega)],by omega,by omega,(aA HN).2.1,(aA HN).2.2⟩
    | false=>
     go_wp2_with fail
     go_roundg (gk-1)
     case measure=>omega
     case rel=>
      have mB:=(aA HN).1.symm
      exact ⟨m+1,by go_num,by rw [cnt,mB];simp,by rw [gT,if_neg (fun h=>by rw [mB] at h;cases h.1)],by omega,by omega,(aA HN).2.1,(aA HN).2.2⟩
   | false=>
    rw [hf] at cl HQ
    clear hf
    have Hq0:Hid (q m=false):=aB (by
     obtain ⟨x,hx⟩:∃ x:Bool,x=true↔M tb (d.extract m d.size).data.toList:=by
      by_cases h:M tb (d.extract m d.size).data.toList
      ·exact ⟨true,fun _=>h,fun _=>rfl⟩
      ·exact ⟨false,fun e=>(by cases e),fun e=>absurd e h⟩
     have:=aA HQ x hx
     rw [Bool.false_and] at this
     exact this.symm)
    clear HQ HI
    go_wp2_with fail
    go_roundg (gk-1)
    case measure=>omega
    case rel=>
     have mB:=aA Hq0
     exact ⟨m+1,by go_num,by rw [cnt,mB];simp,by rw [gT,if_neg (fun h=>by rw [mB] at h;cases h.1)],by omega,by omega,(aA l9).1,(aA l9).2⟩
  ·obtain rfl:m=d.size+1:=by omega
   have HKf:=aB hK
   clear hK hR
   have q7:¬ ((d.size:Int)+1<=(d.size:Int)):=by omega
   have hc0:(0:Int)<=(cnt q (d.size+1):Int):=by omega
   go_wp2_with fail
   all_goals
    go_ret2
    refine ⟨?_,aA HKf⟩
    simp
    omega
def aDI (t:PT) (d:List UInt8) (E:Nat->Nat->Bool):Prop:=∀ i j,E i j=true↔M t (fP d i j)
end Go.Proofs.YtlljggefbngkeaaGreatDoor
