import Derived.Test.YtlljggefbngkeaaGreatDoorU41
import Derived.Test.YtlljggefbngkeaaGreatDoorU24
import Derived.Test.YtlljggefbngkeaaGreatDoorU34
set_option maxRecDepth 100000
set_option maxHeartbeats 3200000
namespace Go.Proofs.YtlljggefbngkeaaGreatDoor
open Go.RowKit Go.Shelf
theorem Tryz.infoPtrM:(Tryz.prog.info? 120).map (fun i=>(i.zero,i.size,i.bytes))=some (some (.pointer none),1,8):=by kernel_rfl
theorem Tryz.infoPtrL:(Tryz.prog.info? 57).map (fun i=>(i.zero,i.size,i.bytes))=some (some (.pointer none),1,8):=by kernel_rfl
theorem Tryz.infoPart:(Tryz.prog.info? 128).map (fun i=>(i.zero,i.size,i.bytes))=some (some (.agg #[.int .i64 0,.pointer none,.pointer none]),3,24):=by kernel_rfl
theorem tS {F:(Nat->Prop)->World->Prop} (hre:∀ (Y Z:Nat->Prop) (w:World),F Y w->(∀ k,k<w.heap.size->Z k->Y k)->F Z w) (uE:∀ (Y:Nat->Prop) (w w':World),F Y w->KY Y w w'->F Y w') {A:Nat->Prop} {w3 w5:World} {ob:Option Nat} {g5:Nat} (h:F (fun k=>A k\/ob=some k) w3) (hg:w3.grownBy w5 ob) (hat:ob=some g5\/w3.heap.size<=g5):F (fun k=>A k\/some g5=some k) w5:=by
 have h1:F (fun k=>(A k\/ob=some k)\/some g5=some k) w3:=hre _ _ _ h (fun k hk hz=>by
  rcases hz with hz | hz
  ·exact hz
  ·rcases hat with e | e
   ·exact .inr (e.trans hz)
   ·injection hz with hz
    omega)
 have h2:F (fun k=>(A k\/ob=some k)\/some g5=some k) w5:=uE _ _ _ h1 (Kp.of_grown hg (fun k e hn=>hn (.inl (.inr e))))
 exact hre _ _ _ h2 (fun k _ hz=>hz.imp .inl id)
structure OZ (Y:Nat->Prop) (w:World) (sl:Value) (gs:List Nat) (ts:List PT):Prop where
 len:gs.length=ts.length
 few:gs.length<=1000
 own:w.ownsRow 0 120 1 sl gs.length (bD gs)
 far:∀ j,sl.ownBlock=some j->¬ Y j
 at_:∀ (i:Nat) (g:Nat) (t:PT),gs[i]? = some g->ts[i]? = some t->bR w Y t g
theorem OZ.ky {Y:Nat->Prop} {w w':World} {sl:Value} {gs:List Nat} {ts:List PT} (h:OZ Y w sl gs ts) (hk:KY Y w w'):OZ Y w' sl gs ts:=
 ⟨h.len,h.few,aI h.own (fun k e=>hk.block k (aJ h.own k e) (h.far k e)),h.far,fun i g t h1 h2=>(h.at_ i g t h1 h2).ky hk⟩
theorem OZ.reY {Y Z:Nat->Prop} {w:World} {sl:Value} {gs:List Nat} {ts:List PT} (h:OZ Y w sl gs ts) (hZ:∀ k,k<w.heap.size->Z k->Y k):OZ Z w sl gs ts:=
 ⟨h.len,h.few,h.own,fun j e hz=>h.far j e (hZ j (aJ h.own j e) hz),fun i g t h1 h2=>(h.at_ i g t h1 h2).reY hZ⟩
theorem OZ.msAt {Y:Nat->Prop} {w:World} {sl:Value} {gs:List Nat} {ts:List PT} (h:OZ Y w sl gs ts):qO w sl gs ts:=
 ⟨h.len,h.few,h.own,fun i g t h1 h2=>(h.at_ i g t h1 h2).at_⟩
structure MsI (w:World) (ts:List PT) (k:Nat) (v:Value) (wv:World):Prop where
 ex:∃ bs:List Nat,bs.length=k/\wv.ownsRow 0 120 1 v k (bD bs)/\∀ (i b:Nat) (t:PT),bs[i]? = some b->ts[i]? = some t->bR wv (fun j=>j<w.heap.size\/v.ownBlock=some j) t b
 far:∀ j,v.ownBlock=some j->w.heap.size<=j
 bel:K0 w wv
theorem Z6 {α:Type} {l:List α} {x y:α} {i:Nat} (h:(l++[x])[i]? = some y):l[i]? = some y\/(i=l.length/\y=x):=by
 rcases Nat.lt_or_ge i l.length with hi | hi
 ·rw [List.getElem?_append_left hi] at h;exact .inl h
 ·rw [List.getElem?_append_right hi] at h
  rcases Nat.eq_zero_or_pos (i-l.length) with e | e
  ·rw [e,List.getElem?_cons_zero] at h
   exact .inr ⟨by omega,(Option.some.inj h).symm⟩
  ·rw [show i-l.length=(i-l.length-1)+1 by omega] at h
   simp at h
def aDR (w:World) (ts:List PT) (e:Ending) (w':World):Prop:=∃ sl bs,e = .returned sl/\OZ (fun k=>k<w.heap.size) w' sl bs ts/\K0 w w'
theorem IS {w:World} {Yt:Nat->Prop} {sl:Value} {gs:List Nat} {ts:List PT} (hown:w.ownsRow 0 116 1 sl gs.length (bD gs)) (hlen:gs.length=ts.length) (hT:∀ (i p:Nat) (t:PT),gs[i]? = some p->ts[i]? = some t->TR w Yt t p/\aX t/\aP t<=1000) (hl:gs.length<=1000):
  Calls Tryz.prog 121 #[sl,.func (.func 98) #[] #[]] w fun e w'=>aDR w ts e w':=by
 obtain ⟨i1,lW,wD,nL,xX⟩:=info_parts Tryz.infoPtrM
 obtain ⟨ao0,cp0,rfl⟩:=aG hown
 have HE:=aB (And.intro hown (And.intro hT hlen))
 clear hown hT hlen
 go_enter Tryz.func121,Tryz.ntmps121
 go_wp2_with fail
 go_loopg [5,10] (gs.length+2) (fun gk v5 v10 wv=>∃ (k:Nat),v10 = .int .i64 (k:Int)/\k<=gs.length/\gs.length-k<gk/\MsI w ts k v5 wv)
 case atStart=>exact ⟨0,rfl,Nat.zero_le _,by omega,⟨[],rfl,World.ownsRow_nil _ _ _ _,fun i b t h=>by simp at h⟩,fun j e=>(by cases e),K0.refl _⟩
 case round=>
  obtain ⟨k,rfl,hk,fW,hR⟩:=hrel
  obtain ⟨bs,hbl,kY,uI⟩:=hR.ex
  obtain ⟨ao,cp,rfl⟩:=aG kY
  obtain ⟨hown,hT,hlen⟩:=aA HE
  by_cases hlt:k<gs.length
  ·have hd:(k:Int)<(gs.length:Int):=by omega
   obtain ⟨vb,cap,fM,_,dB⟩:=hown.form (by omega)
   injection fM with hao _ nY
   subst hao
   subst nY
   obtain ⟨p,hp⟩:∃ p,gs[k]? = some p:=⟨_,List.getElem?_eq_getElem hlt⟩
   obtain ⟨t,ht⟩:∃ t,ts[k]? = some t:=⟨_,List.getElem?_eq_getElem (by omega)⟩
   have ck:wr.cell? ⟨vb,k,none⟩=some (.pointer (some ⟨p,0,none⟩)):=by
    rw [World.cell?_of_block (w:=w) (w':=wr) (a:=⟨vb,k,none⟩) (hR.bel.heap dB),hown.cellAt k (by omega)]
    simp [bD,hp]
   have HT:=aB (xB (TR.kept (w':=wr) (fun j hj _=>hR.bel.heap hj) (hT k p t hp ht).1) (hT k p t hp ht).2.1 (hT k p t hp ht).2.2)
   have HR:=aB (And.intro hR (And.intro hbl (And.intro kY (And.intro uI ht))))
   clear hR hbl kY uI hown hT hp ht hlen
   go_wp2_with fail
   refine (aA HT).mono ?_
   rintro e w3 ⟨b,rfl,E0,hk3⟩
   have dW:=aI (aA HR).2.2.1 (fun j e=>hk3.heap (aJ (aA HR).2.2.1 j e))
   have H3:=aB (And.intro hk3 E0)
   clear hk3 E0 HT
   go_wp2_with (at_builtin;refine wpList_append_lies _ rfl (.tmp 14) (.tmp 18) 135 rfl 0 120 i1 _ 1 8 Tryz.underlying135 lW wD nL xX rfl (by decide) (.slice ao k cp) k (bD bs) rfl (dW.alloc _) ⟨w3.heap.size,0,none⟩ 1 1 [.pointer (some ⟨b,0,none⟩)] rfl rfl (World.news_of_block (cs := #[.pointer (some ⟨b,0,none⟩)]) (heap_alloc_new w3 _)) (by simp [Value.oneCell']) (by omega) (by unfold maxLen;omega) (by omega) (Nat.zero_le _) _ rfl ?_)
   intro g5 cap5 w5 bB aL bW gH
   have H5:=aB (And.intro bB (And.intro aL bW))
   clear bB aL bW gH dW
   go_wp2_with fail
   go_roundg (gk-1)
   case measure=>omega
   case rel=>
    obtain ⟨bB,aL,bW⟩:=aA H5
    obtain ⟨hR,hbl,kY,uI,ht⟩:=aA HR
    obtain ⟨hk3,E0⟩:=aA H3
    have xN:=hR.bel.trans hk3
    have hzr:=xN.size
    have hz3:=hk3.size
    have qH:=aL.size
    simp at qH
    have aA8:∀ j,(Value.slice ao k cp).ownBlock=some j->j<wr.heap.size:=fun j e=>aJ kY j e
    have hat':(Value.slice ao k cp).ownBlock=some g5\/(w3.alloc (.cells #[.pointer (some ⟨b,0,none⟩)] 120)).heap.size<=g5:=by
     rcases bW with e | e
     ·exact .inl e
     ·exact .inr (by simp at e ⊢;omega)
    refine ⟨k+1,by simp,by omega,by omega,⟨bs++[b],by simp [hbl],?_,fun i b' t' hb' XA=>?_⟩,fun j e=>?_,?_⟩
    ·have:bD (bs++[b])=bD bs++[.pointer (some ⟨b,0,none⟩)]:=by simp [bD]
     rw [this]
     exact bB
    ·refine tS (F:=fun Y W=>bR W Y t' b') (fun _ _ _ h hz=>h.reY hz) (fun _ _ _ h hk=>h.ky hk) (ob:=(Value.slice ao k cp).ownBlock) ?_ aL hat'
     rcases Z6 hb' with h | ⟨h,rfl⟩
     ·exact ((uI i b' t' h XA).ky (hk3.ky _)).ky (Kp.alloc _ _ _)
     ·obtain rfl:t'=t:=by rw [h,hbl,ht] at XA;exact (Option.some.inj XA).symm
      refine (E0 _ (fun j h1 h2=>Below.heap_alloc _ _ _ h2) (by simp)).reY (fun j _ hz=>?_)
      rcases hz with hz | hz
      ·have:=hR.bel.size;omega
      ·exact aA8 j hz
    ·simp [Value.ownBlock] at e
     subst e
     rcases bW with e | e
     ·exact hR.far _ e
     ·omega
    ·refine ⟨aL.os.trans xN.os,aL.tape.trans xN.tape,aL.output.trans xN.output,by omega,fun j hj _=>?_⟩
     rw [aL.block j (by simp;omega) (fun e=>by have:=hR.far j e.symm;omega),Below.heap_alloc _ _ _ (by omega)]
     exact xN.heap hj
  ·have hd:¬ (k:Int)<(gs.length:Int):=by omega
   have H7:=aB (And.intro hR (And.intro hbl (And.intro kY (And.intro uI hlen))))
   clear hR hbl kY uI hown hT hlen
   go_wp2
   go_ret
   obtain ⟨hR,hbl,kY,uI,hlen⟩:=aA H7
   refine ⟨_,bs,rfl,⟨by omega,by omega,by rw [hbl];exact kY,fun j e hj=>by have:=hR.far j e;omega,fun i g t h1 h2=>(uI i g t h1 h2).reY (fun _ _ hz => .inl hz)⟩,hR.bel⟩
structure CsO (Y:Nat->Prop) (w:World) (sl:Value) (gs:List Nat) (cs:List BT):Prop where
 len:gs.length=cs.length
 few:gs.length<=1000
 own:w.ownsRow 0 57 1 sl gs.length (bD gs)
 far:∀ j,sl.ownBlock=some j->¬ Y j
 at_:∀ (i:Nat) (g:Nat) (c:BT),gs[i]? = some g->cs[i]? = some c->CL Y w g c
theorem CsO.ky {Y:Nat->Prop} {w w':World} {sl:Value} {gs:List Nat} {cs:List BT} (h:CsO Y w sl gs cs) (hk:KY Y w w'):CsO Y w' sl gs cs:=
 ⟨h.len,h.few,aI h.own (fun k e=>hk.block k (aJ h.own k e) (h.far k e)),h.far,fun i g t h1 h2=>(h.at_ i g t h1 h2).ky hk⟩
structure CsI (Y:Nat->Prop) (w:World) (l:List LT) (k:Nat) (v:Value) (wv:World):Prop where
 ex:∃ bs:List Nat,bs.length=k/\wv.ownsRow 0 57 1 v k (bD bs)/\∀ (i b:Nat) (t:LT),bs[i]? = some b->l[i]? = some t->CL (fun j=>Y j\/v.ownBlock=some j) wv b (bP t)
 far:∀ j,v.ownBlock=some j->w.heap.size<=j
 bel:K0 w wv
def aDW (Y:Nat->Prop) (w:World) (cs:List BT) (e:Ending) (w':World):Prop:=∃ sl bs,e = .returned sl/\CsO Y w' sl bs cs/\K0 w w'
def lL (s:ByteArray) (t:LT):Prop:=∀ (w:World) (Y:Nat->Prop) (g:Nat),LR s w Y t g->(∀ k,Y k->k<w.heap.size)->Calls Tryz.prog 47 #[.pointer (some ⟨g,0,none⟩)] w fun e w'=>lT Y w (bP t) e w'
theorem jB {s:ByteArray} {w:World} {Y:Nat->Prop} {sl:Value} {gs:List Nat} {l:List LT} (hY:∀ k,Y k->k<w.heap.size) (hown:w.ownsRow 0 54 1 sl gs.length (bD gs)) (hlen:gs.length=l.length) (hT:∀ (i p:Nat) (t:LT),l[i]? = some t->gs[i]? = some p->LR s w Y t p) (hN:∀ t,t∈l->lL s t) (hl:gs.length<=1000):
  Calls Tryz.prog 67 #[sl,.func (.func 47) #[] #[]] w fun e w'=>aDW Y w (l.map bP) e w':=by
 obtain ⟨i1,lW,wD,nL,xX⟩:=info_parts Tryz.infoPtrL
 obtain ⟨ao0,cp0,rfl⟩:=aG hown
 have HE:=aB (And.intro hown (And.intro hT (And.intro hlen (And.intro hN hY))))
 clear hown hT hlen hN hY
 go_enter Tryz.func67,Tryz.ntmps67
 go_wp2_with fail
 go_loopg [5,10] (gs.length+2) (fun gk v5 v10 wv=>∃ (k:Nat),v10 = .int .i64 (k:Int)/\k<=gs.length/\gs.length-k<gk/\CsI Y w l k v5 wv)
 case atStart=>exact ⟨0,rfl,Nat.zero_le _,by omega,⟨[],rfl,World.ownsRow_nil _ _ _ _,fun i b t h=>by simp at h⟩,fun j e=>(by cases e),K0.refl _⟩
 case round=>
  obtain ⟨k,rfl,hk,fW,hR⟩:=hrel
  obtain ⟨bs,hbl,kY,uI⟩:=hR.ex
  obtain ⟨ao,cp,rfl⟩:=aG kY
  obtain ⟨hown,hT,hlen,hN,hY⟩:=aA HE
  by_cases hlt:k<gs.length
  ·have hd:(k:Int)<(gs.length:Int):=by omega
   obtain ⟨vb,cap,fM,_,dB⟩:=hown.form (by omega)
   injection fM with hao _ nY
   subst hao
   subst nY
   obtain ⟨p,hp⟩:∃ p,gs[k]? = some p:=⟨_,List.getElem?_eq_getElem hlt⟩
   obtain ⟨t,ht⟩:∃ t,l[k]? = some t:=⟨_,List.getElem?_eq_getElem (by omega)⟩
   have ck:wr.cell? ⟨vb,k,none⟩=some (.pointer (some ⟨p,0,none⟩)):=by
    rw [World.cell?_of_block (w:=w) (w':=wr) (a:=⟨vb,k,none⟩) (hR.bel.heap dB),hown.cellAt k (by omega)]
    simp [bD,hp]
   have UK:LR s wr (fun j=>Y j\/(Value.slice ao k cp).ownBlock=some j) t p:=by
    have h1:LR s w (fun j=>Y j\/w.heap.size<=j) t p:=LR.reY (fun j hj hz=>hz.resolve_right (by omega)) (hT k p t ht hp)
    exact LR.reY (fun j _ hz=>hz.imp id (fun e=>hR.far j e)) (LR.kept (fun j hj _=>hR.bel.heap hj) h1)
   have HT:=aB (hN t (List.mem_of_getElem? ht) wr _ p UK (fun j hj=>by
    rcases hj with hj | hj
    ·have:=hY j hj;have:=hR.bel.size;omega
    ·exact aJ kY j hj))
   have HR:=aB (And.intro hR (And.intro hbl (And.intro kY (And.intro uI ht))))
   clear hR hbl kY uI hown hT hp ht hlen hN hY UK
   go_wp2_with fail
   refine (aA HT).mono ?_
   rintro e w3 ⟨b,rfl,E0,hk3⟩
   have dW:=aI (aA HR).2.2.1 (fun j e=>hk3.heap (aJ (aA HR).2.2.1 j e))
   have H3:=aB (And.intro hk3 E0)
   clear hk3 E0 HT
   go_wp2_with (at_builtin;refine wpList_append_lies _ rfl (.tmp 14) (.tmp 18) 112 rfl 0 57 i1 _ 1 8 Tryz.underlying112 lW wD nL xX rfl (by decide) (.slice ao k cp) k (bD bs) rfl (dW.alloc _) ⟨w3.heap.size,0,none⟩ 1 1 [.pointer (some ⟨b,0,none⟩)] rfl rfl (World.news_of_block (cs := #[.pointer (some ⟨b,0,none⟩)]) (heap_alloc_new w3 _)) (by simp [Value.oneCell']) (by omega) (by unfold maxLen;omega) (by omega) (Nat.zero_le _) _ rfl ?_)
   intro g5 cap5 w5 bB aL bW gH
   have H5:=aB (And.intro bB (And.intro aL bW))
   clear bB aL bW gH dW
   go_wp2_with fail
   go_roundg (gk-1)
   case measure=>omega
   case rel=>
    obtain ⟨bB,aL,bW⟩:=aA H5
    obtain ⟨hR,hbl,kY,uI,ht⟩:=aA HR
    obtain ⟨hk3,E0⟩:=aA H3
    have xN:=hR.bel.trans hk3
    have hzr:=xN.size
    have hz3:=hk3.size
    have qH:=aL.size
    simp at qH
    have aA8:∀ j,(Value.slice ao k cp).ownBlock=some j->j<wr.heap.size:=fun j e=>aJ kY j e
    have hat':(Value.slice ao k cp).ownBlock=some g5\/(w3.alloc (.cells #[.pointer (some ⟨b,0,none⟩)] 57)).heap.size<=g5:=by
     rcases bW with e | e
     ·exact .inl e
     ·exact .inr (by simp at e ⊢;omega)
    refine ⟨k+1,by simp,by omega,by omega,⟨bs++[b],by simp [hbl],?_,fun i b' t' hb' XA=>?_⟩,fun j e=>?_,?_⟩
    ·have:bD (bs++[b])=bD bs++[.pointer (some ⟨b,0,none⟩)]:=by simp [bD]
     rw [this]
     exact bB
    ·refine tS (F:=fun Y W=>CL Y W b' (bP t')) (fun _ _ _ h hz=>h.reY hz) (fun _ _ _ h hk=>h.ky hk) (ob:=(Value.slice ao k cp).ownBlock) ?_ aL hat'
     rcases Z6 hb' with h | ⟨h,rfl⟩
     ·exact ((uI i b' t' h XA).ky (hk3.ky _)).ky (Kp.alloc _ _ _)
     ·obtain rfl:t'=t:=by rw [h,hbl,ht] at XA;exact (Option.some.inj XA).symm
      exact E0.ky (Kp.alloc _ _ _)
    ·simp [Value.ownBlock] at e
     subst e
     rcases bW with e | e
     ·exact hR.far _ e
     ·omega
    ·refine ⟨aL.os.trans xN.os,aL.tape.trans xN.tape,aL.output.trans xN.output,by omega,fun j hj _=>?_⟩
     rw [aL.block j (by simp;omega) (fun e=>by have:=hR.far j e.symm;omega),Below.heap_alloc _ _ _ (by omega)]
     exact xN.heap hj
  ·have hd:¬ (k:Int)<(gs.length:Int):=by omega
   have H7:=aB (And.intro hR (And.intro hbl (And.intro kY (And.intro uI (And.intro hlen hY)))))
   clear hR hbl kY uI hown hT hlen hN hY
   go_wp2
   go_ret
   obtain ⟨hR,hbl,kY,uI,hlen,hY⟩:=aA H7
   refine ⟨_,bs,rfl,⟨by rw [List.length_map];omega,by omega,by rw [hbl];exact kY,fun j e hj=>by have:=hR.far j e;have:=hY j hj;omega,fun i g c h1 h2=>?_⟩,hR.bel⟩
   rw [List.getElem?_map] at h2
   cases hu:l[i]? with
   | none=>rw [hu] at h2;cases h2
   | some u=>
    rw [hu] at h2
    obtain rfl:=Option.some.inj h2
    exact (uI i g u h1 hu).reY (fun _ _ hz => .inl hz)
def A9 (m:Int) (p:Nat×Nat):List Value:=[.int .i64 m,.pointer (some ⟨p.1,0,none⟩),.pointer (some ⟨p.2,0,none⟩)]
structure QE (Y:Nat->Prop) (w:World) (m:Int) (sl:Value) (ps:List (Nat×Nat)) (AB:List (PT×PT)):Prop where
 len:ps.length=AB.length
 few:ps.length<=1000
 own:w.ownsRow 0 128 3 sl ps.length (ps.flatMap (A9 m))
 far:∀ j,sl.ownBlock=some j->¬ Y j
 at_:∀ (i:Nat) (p:Nat×Nat) (ab:PT×PT),ps[i]? = some p->AB[i]? = some ab->bR w Y ab.1 p.1/\bR w Y ab.2 p.2
theorem QE.ky {Y:Nat->Prop} {w w':World} {m:Int} {sl:Value} {ps:List (Nat×Nat)} {AB:List (PT×PT)} (h:QE Y w m sl ps AB) (hk:KY Y w w'):QE Y w' m sl ps AB:=
 ⟨h.len,h.few,aI h.own (fun k e=>hk.block k (aJ h.own k e) (h.far k e)),h.far,fun i g t h1 h2=>⟨(h.at_ i g t h1 h2).1.ky hk,(h.at_ i g t h1 h2).2.ky hk⟩⟩
theorem QE.reY {Y Z:Nat->Prop} {w:World} {m:Int} {sl:Value} {ps:List (Nat×Nat)} {AB:List (PT×PT)} (h:QE Y w m sl ps AB) (hZ:∀ k,k<w.heap.size->Z k->Y k):QE Z w m sl ps AB:=
 ⟨h.len,h.few,h.own,fun j e hz=>h.far j e (hZ j (aJ h.own j e) hz),fun i g t h1 h2=>⟨(h.at_ i g t h1 h2).1.reY hZ,(h.at_ i g t h1 h2).2.reY hZ⟩⟩
def qD (ts:List PT) (k:Nat):List (PT×PT):=(List.range k).map fun i=>(gM (ts.take (i+1)),(ts[i+1]?).getD (.seq []))
theorem nE (ts:List PT) (k:Nat):(qD ts k).length=k:=by simp [qD]
theorem pH (ts:List PT) (k i:Nat) (h:i<k):(qD ts k)[i]? = some (gM (ts.take (i+1)),(ts[i+1]?).getD (.seq [])):=by
 unfold qD
 rw [List.getElem?_map,List.getElem?_range h]
 rfl
structure PgI (w:World) (m:Int) (ts:List PT) (k:Nat) (v:Value) (wv:World):Prop where
 ex:∃ ps:List (Nat×Nat),ps.length=k/\wv.ownsRow 0 128 3 v k (ps.flatMap (A9 m))/\∀ (i:Nat) (p:Nat×Nat) (ab:PT×PT),ps[i]? = some p->(qD ts k)[i]? = some ab->bR wv (fun j=>j<w.heap.size\/v.ownBlock=some j) ab.1 p.1/\bR wv (fun j=>j<w.heap.size\/v.ownBlock=some j) ab.2 p.2
 far:∀ j,v.ownBlock=some j->w.heap.size<=j
 bel:K0 w wv
def aDP (w:World) (m:Int) (AB:List (PT×PT)) (e:Ending) (w':World):Prop:=∃ sl ps,e = .returned sl/\QE (fun k=>k<w.heap.size) w' m sl ps AB/\K0 w w'
theorem ES {w:World} {Y:Nat->Prop}:∀ {l:List PT} {gs:List Nat},dN w Y l gs->∀ (k:Nat) (t:PT) (g:Nat),l[k]? = some t->gs[k]? = some g->TR w Y t g
 | [],[],_,k,t,g,h,_=>by simp at h
 | t::l,g::gs,h,k,u,x,hu,hx=>by
  rw [dN] at h
  cases k with
  | zero=>simp at hu hx;subst hu hx;exact h.1
  | succ k=>exact ES h.2 k u x (by simpa using hu) (by simpa using hx)
 | [],k::ks,h,_,_,_,_,_=>by simp [dN] at h
 | t::l,[],h,_,_,_,_,_=>by simp [dN] at h
theorem US {w1 w3 w5:World} {o:Obj} {ob:Option Nat} (h1:K0 w1 w3) (dY:∀ j,ob=some j->w1.heap.size<=j) (hg:(w3.alloc o).grownBy w5 ob):K0 w1 w5:=by
 have h2:=h1.size
 have h3:=hg.size
 simp at h3
 refine ⟨hg.os.trans h1.os,hg.tape.trans h1.tape,hg.output.trans h1.output,by omega,fun j hj _=>?_⟩
 rw [hg.block j (by simp;omega) (fun e=>by have:=dY j e.symm;omega),Below.heap_alloc _ _ _ (by omega)]
 exact h1.heap hj
theorem L4 {s:ByteArray} {v:Bool} {t:LT} {w:World} {Y:Nat->Prop} {g:Nat} (hL:LR s w Y t g) (hO:J3 t) (hY:∀ k,Y k->k<w.heap.size) (gG:∀ x,x∈cL v t->aX x/\aP x<=1000) (hsz:∀ i,aX (gM ((cL v t).take (i+1)))/\aP (gM ((cL v t).take (i+1)))<=1000) (hn:0<(parts t).length):
  Calls Tryz.prog 72 #[.int .i64 (rR v),.pointer (some ⟨g,0,none⟩)] w fun e w'=>aDP w (fB v) (qD (cL v t) ((parts t).length-1)) e w':=by
 obtain ⟨i1,lW,wD,nL,xX⟩:=info_parts Tryz.infoPart
 have HP:=aB (U2 (v:=v) (fun u _=>lP u) hL hO hY)
 have hpl:=hO.len
 have fU:=tK v t
 clear hL hO
 go_enter Tryz.func72,Tryz.ntmps72
 go_wp2_with fail
 refine (aA HP).mono ?_
 rintro e w1 ⟨v1,gs,rfl,hR⟩
 have hlen:=hR.trl.len
 obtain ⟨vb,cp0,rfl,_,dB⟩:=hR.own.form (by omega)
 have aY:K0 w w1:=K0.of_grownz hR.gr
 have CT:gs.length<=cp0:=by
  rcases hR.own.2 with ⟨h',_⟩ | ⟨g',cap',cur,h',_,_,hnc,_⟩
  ·simp at h'
  ·injection h' with _ _ hc
   omega
 have nY:cp0<=9223372036854775807:=by
  rcases hR.own.2 with ⟨h',_⟩ | ⟨g',cap',cur,h',_,_,hnc,hcm,_⟩
  ·simp at h'
  ·injection h' with _ _ hc
   unfold maxLen at hcm
   omega
 have eC:gs.length<=1000:=by omega
 have HE:=aB (And.intro hR (And.intro aY (And.intro gG (And.intro hsz (And.intro hY (And.intro hlen fU))))))
 have hgn:gs.length=(parts t).length:=by omega
 have HG:=aB hgn
 have hg0:0<gs.length:=by omega
 have yU:w1.heap.size=w1.heap.size:=rfl
 clear hR aY gG hsz hY HP hlen fU hpl hgn hn
 go_wp2_with fail
 go_loopg [6,7] (gs.length+2) (fun gk v6 v7 wv=>∃ (k:Nat),v7 = .int .i64 ((k:Int)+1)/\k+1<=gs.length/\gs.length-k<gk/\PgI w1 (fB v) (cL v t) k v6 wv)
 case atStart=>exact ⟨0,rfl,hg0,by omega,⟨[],rfl,World.ownsRow_nil _ _ _ _,fun i p ab h=>by simp at h⟩,fun j e=>(by cases e),K0.refl _⟩
 case round=>
  obtain ⟨k,rfl,hk,fW,hI⟩:=hrel
  obtain ⟨ps,hpl,kY,uI⟩:=hI.ex
  obtain ⟨ao,cp,rfl⟩:=aG kY
  obtain ⟨hR,aY,gG,hsz,hY,hlen,fU⟩:=aA HE
  have dC:IntKind.i64.wrap ((k:Int)+1+1)=(k:Int)+1+1:=IntWalk.i64_in _ (by omega)
  by_cases hlt:k+1<gs.length
  ·have hd:(k:Int)+1<(gs.length:Int):=by omega
   obtain ⟨p,hp⟩:∃ p,gs[k+1]? = some p:=⟨_,List.getElem?_eq_getElem hlt⟩
   obtain ⟨tp,htp⟩:∃ tp,(cL v t)[k+1]? = some tp:=⟨_,List.getElem?_eq_getElem (by omega)⟩
   have ck:wr.cell? ⟨vb,k+1,none⟩=some (.pointer (some ⟨p,0,none⟩)):=by
    rw [World.cell?_of_block (w:=w1) (w':=wr) (a:=⟨vb,k+1,none⟩) (hI.bel.heap dB),hR.own.cellAt (k+1) (by omega)]
    simp [bD,hp]
   have ck1:w1.cell? ⟨vb,k+1,none⟩=some (.pointer (some ⟨p,0,none⟩)):=by
    rw [hR.own.cellAt (k+1) (by omega)]
    simp [bD,hp]
   have hown1:w1.ownsRow 0 116 1 (.slice (some ⟨vb,0,none⟩) (k+1) cp0) (k+1) (bD (gs.take (k+1))):=by
    have:=BW hR.own (m:=k+1) (by omega)
    have e:(bD gs).take (k+1)=bD (gs.take (k+1)):=by unfold bD;rw [List.map_take]
    rw [e] at this
    exact this
   have hgt:(gs.take (k+1)).length=k+1:=by rw [List.length_take];omega
   have gA:∀ V V':World,(K0 w1 V/\V.cell? ⟨vb,k+1,none⟩=some (.pointer (some ⟨p,0,none⟩)))->K0 V V'->(K0 w1 V'/\V'.cell? ⟨vb,k+1,none⟩=some (.pointer (some ⟨p,0,none⟩))):=fun V V' h hk=>⟨h.1.trans hk,hk.cellz h.2⟩
   have HRow:Hid (∀ V:World,(K0 w1 V/\V.cell? ⟨vb,k+1,none⟩=some (.pointer (some ⟨p,0,none⟩)))->Calls Tryz.prog 108 #[.slice (some ⟨vb,0,none⟩) (k+1) cp0] V fun e V'=>(∃ q,e = .returned (.pointer (some ⟨q,0,none⟩))/\TR V' Y (gM ((cL v t).take (k+1))) q)/\K0 V V'/\(K0 w1 V'/\V'.cell? ⟨vb,k+1,none⟩=some (.pointer (some ⟨p,0,none⟩)))):=aB (fun V h=>by
    have ho:V.ownsRow 0 116 1 (.slice (some ⟨vb,0,none⟩) (k+1) cp0) (gs.take (k+1)).length (bD (gs.take (k+1))):=by rw [hgt];exact aI hown1 (fun j e=>h.1.heap (aJ hown1 j e))
    have hT:dN V Y ((cL v t).take (k+1)) (gs.take (k+1)):=dN.take (dN.kept (fun j hj _=>h.1.heap hj) hR.trY) _
    refine (RN ho (fun e=>by rw [e] at hgt;cases hgt) (by omega) hT (fun j hj=>by have:=hY j hj;have:=aY.size;have:=h.1.size;omega)).mono ?_
    rintro e V' ⟨q,rfl,hg,hTq⟩
    exact ⟨⟨q,rfl,hTq⟩,K0.of_grownz hg,gA V V' h (K0.of_grownz hg)⟩)
   have HNew:Hid (∀ (V:World) (q:Nat),(K0 w1 V/\V.cell? ⟨vb,k+1,none⟩=some (.pointer (some ⟨p,0,none⟩)))->TR V Y (gM ((cL v t).take (k+1))) q->Calls Tryz.prog 107 #[.int .i64 (rR v),.pointer (some ⟨q,0,none⟩),.pointer (some ⟨p,0,none⟩)] V fun e V'=>(∃ ba bb,e = .returned (.agg #[.int .i64 (fB v),.pointer (some ⟨ba,0,none⟩),.pointer (some ⟨bb,0,none⟩)])/\bR V' (fun k=>k<V.heap.size) (gM ((cL v t).take (k+1))) ba/\bR V' (fun k=>k<V.heap.size) tp bb)/\K0 V V'/\(K0 w1 V'/\V'.cell? ⟨vb,k+1,none⟩=some (.pointer (some ⟨p,0,none⟩)))):=aB (fun V q h hq=>by
    have hTp:TR V Y tp p:=TR.kept (fun j hj _=>h.1.heap hj) (ES hR.trY (k+1) tp p htp hp)
    refine (qV (v:=v) hq hTp (hsz k).1 (gG tp (List.mem_of_getElem? htp)).1 (hsz k).2 (gG tp (List.mem_of_getElem? htp)).2).mono ?_
    rintro e V' ⟨hh,hg⟩
    exact ⟨hh,hg,gA V V' h hg⟩)
   have HI:=aB (And.intro hI (And.intro hpl (And.intro kY (And.intro uI htp))))
   have fV:K0 w1 wr.drew:=hI.bel.trans (Kp.drew _ _)
   have hlw:=hI.bel.size
   have jO:(0:Int)<=(k:Int)+1:=by omega
   have GU:(k:Int)+1<=(cp0:Int):=by omega
   have yX:(k:Int)+1<=(gs.length:Int):=by omega
   have NY:((k:Int)+1).toNat=k+1:=by omega
   clear hI hpl kY uI hR aY gG hsz hY hlen fU hown1 hgt gA htp
   go_wp2_with fail
   go_region_held3 (fun V=>(K0 w1 V/\V.cell? ⟨vb,k+1,none⟩=some (.pointer (some ⟨p,0,none⟩)))) (go_keep) (first
    | (go_at_call 108;refine (aA HRow _ (by assumption)).mono ?_;rintro e w2 ⟨⟨q,rfl,hTq⟩,hk2,iH⟩)
    | (go_at_call 107;refine (aA HNew _ q (by assumption) (by assumption)).mono ?_;rintro e w3 ⟨⟨ba,bb,rfl,EM,E0⟩,hk3,fX⟩;have hka:∀ o,K0 w1 (w3.alloc o):=fun o=>fX.1.trans (Kp.alloc _ w3 o);have hkr:K0 wr w3:=(Kp.drew _ wr).trans (hk2.trans hk3);have dW:=aI (aA HI).2.2.1 (fun j e=>hkr.heap (aJ (aA HI).2.2.1 j e)))
    | (refine step_append_lies _ (by rfl) _ _ _ (by rfl) 0 128 i1 _ 3 24 Tryz.underlying129 lW wD nL xX rfl (by omega) (.slice ao k cp) k (ps.flatMap (A9 (fB v))) (by rfl) (dW.alloc _) ⟨w3.heap.size,0,none⟩ 1 1 [.int .i64 (fB v),.pointer (some ⟨ba,0,none⟩),.pointer (some ⟨bb,0,none⟩)] (by rfl) (by rfl) (World.news_of_block (cs := #[.int .i64 (fB v),.pointer (some ⟨ba,0,none⟩),.pointer (some ⟨bb,0,none⟩)]) (t:=128) (fr:=(0,0)) (heap_alloc_new w3 _)) (by simp [Value.oneCell']) (by omega) (by unfold maxLen;omega) (by omega) (Nat.zero_le _) (w3.heap.size+1) (by simp) ?_;intro g5 cap5 w5 bB aL bW gH;have gL:K0 w1 w5:=US fX.1 (aA HI).1.far aL;have hc5:=gL.cellz ck1))
   have hz2:wr.heap.size<=w2.heap.size:=hk2.size
   have H5:=aB (And.intro bB (And.intro aL (And.intro bW (And.intro EM (And.intro E0 (And.intro hkr hk3))))))
   clear bB aL bW EM E0 gH fX iH hkr hk3 hk2 hka dW hTq hc5
   go_wp2_with fail
   go_roundg (gk-1)
   case measure=>omega
   case rel=>
    obtain ⟨bB,aL,bW,EM,E0,hkr,hk3⟩:=aA H5
    obtain ⟨hI,hpl,kY,uI,htp⟩:=aA HI
    have hz3:=hkr.size
    have hz4:=hk3.size
    have hzI:=hI.bel.size
    have aA8:∀ j,(Value.slice ao k cp).ownBlock=some j->j<wr.heap.size:=fun j e=>aJ kY j e
    have hat':(Value.slice ao k cp).ownBlock=some g5\/(w3.alloc (.cells #[.int .i64 (fB v),.pointer (some ⟨ba,0,none⟩),.pointer (some ⟨bb,0,none⟩)] 128)).heap.size<=g5:=by
     rcases bW with e | e
     ·exact .inl e
     ·exact .inr (by simp at e ⊢;omega)
    refine ⟨k+1,by simp,by omega,by omega,⟨ps++[(ba,bb)],by simp [hpl],?_,fun i q ab hq hab=>?_⟩,fun j e=>?_,gL⟩
    ·have:(ps++[(ba,bb)]).flatMap (A9 (fB v))=ps.flatMap (A9 (fB v))++[.int .i64 (fB v),.pointer (some ⟨ba,0,none⟩),.pointer (some ⟨bb,0,none⟩)]:=by simp [A9]
     rw [this]
     exact bB
    ·have aEU:i<k+1:=by have:=(List.getElem?_eq_some_iff.1 hab).1;rwa [nE] at this
     rw [pH _ _ _ aEU] at hab
     obtain rfl:=Option.some.inj hab
     have key:bR (w3.alloc (.cells #[.int .i64 (fB v),.pointer (some ⟨ba,0,none⟩),.pointer (some ⟨bb,0,none⟩)] 128)) (fun j=>j<w1.heap.size\/(Value.slice ao k cp).ownBlock=some j) (gM ((cL v t).take (i+1))) q.1/\bR (w3.alloc (.cells #[.int .i64 (fB v),.pointer (some ⟨ba,0,none⟩),.pointer (some ⟨bb,0,none⟩)] 128)) (fun j=>j<w1.heap.size\/(Value.slice ao k cp).ownBlock=some j) (((cL v t)[i+1]?).getD (.seq [])) q.2:=by
      rcases Z6 hq with h | ⟨h,rfl⟩
      ·have hik:i<k:=by have:=(List.getElem?_eq_some_iff.1 h).1;omega
       obtain ⟨m1,m2⟩:=uI i q _ h (pH _ _ _ hik)
       exact ⟨(m1.ky (hkr.ky _)).ky (Kp.alloc _ _ _),(m2.ky (hkr.ky _)).ky (Kp.alloc _ _ _)⟩
      ·obtain rfl:i=k:=by omega
       rw [htp]
       have hre:∀ j,j<w1.heap.size\/(Value.slice ao i cp).ownBlock=some j->j<w2.heap.size:=fun j hj=>by
        rcases hj with hj | hj
        ·omega
        ·have:=aA8 j hj;omega
       exact ⟨(EM.ky (Kp.alloc _ _ _)).reY (fun j _ hz=>hre j hz),(E0.ky (Kp.alloc _ _ _)).reY (fun j _ hz=>hre j hz)⟩
     exact ⟨tS (F:=fun Y W=>bR W Y (gM ((cL v t).take (i+1))) q.1) (fun _ _ _ h hz=>h.reY hz) (fun _ _ _ h hk=>h.ky hk) key.1 aL hat',tS (F:=fun Y W=>bR W Y (((cL v t)[i+1]?).getD (.seq [])) q.2) (fun _ _ _ h hz=>h.reY hz) (fun _ _ _ h hk=>h.ky hk) key.2 aL hat'⟩
    ·simp [Value.ownBlock] at e
     subst e
     rcases bW with e | e
     ·exact hI.far _ e
     ·omega
  ·have hd:¬ (k:Int)+1<(gs.length:Int):=by omega
   have H7:=aB (And.intro hI (And.intro hpl (And.intro kY (And.intro uI aY))))
   clear hI hpl kY uI hR aY gG hsz hY hlen fU
   go_wp2
   go_ret
   obtain ⟨hI,hpl,kY,uI,aY⟩:=aA H7
   have e:(parts t).length-1=k:=by rw [← aA HG];omega
   rw [e]
   have hs1:=aY.size
   refine ⟨_,ps,rfl,⟨by rw [nE,hpl],by omega,by rw [hpl];exact kY,fun j e hj=>by have:=hI.far j e;omega,fun i g t h1 h2=>⟨(uI i g t h1 h2).1.reY (fun _ _ hz => .inl (by omega)),(uI i g t h1 h2).2.reY (fun _ _ hz => .inl (by omega))⟩⟩,aY.trans hI.bel⟩
end Go.Proofs.YtlljggefbngkeaaGreatDoor
