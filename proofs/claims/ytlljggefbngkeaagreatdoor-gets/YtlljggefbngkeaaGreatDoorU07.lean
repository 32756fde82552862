import Derived.Test.YtlljggefbngkeaaGreatDoorU06
set_option maxRecDepth 100000
set_option maxHeartbeats 3200000
namespace Go.Proofs.YtlljggefbngkeaaGreatDoor
open Go.RowKit
def qS (c:Int):Bool:=decide (c=124)||decide (c=41)||decide (c=47)
structure LV (w:World) (a:Nat) (kind:Int) (v:Value) (ks:List Nat):Prop where
 blk:w.heap[a]? = some (.cells #[.int .u8 kind,.string ⟨#[]⟩,v] 90 (0,0))
 own:w.ownsRow 0 3 1 v ks.length (cG ks)
def Y1 (Y:Nat->Prop) (a:Nat) (v:Value) (k:Nat):Prop:=Y k\/k=a\/v.ownBlock=some k
theorem LV.kept {w w':World} {a:Nat} {kind:Int} {v:Value} {ks:List Nat} {Z:Nat->Prop} (h:LV w a kind v ks) (hk:Kp Z w w') (ha:Z a) (hv:∀ k,v.ownBlock=some k->Z k):LV w' a kind v ks:=
 ⟨hk.at h.blk ha,aI h.own fun k e=>hk.block k (aJ h.own k e) (hv k e)⟩
theorem LV.lt {w:World} {a:Nat} {kind:Int} {v:Value} {ks:List Nat} (h:LV w a kind v ks) {Y:Nat->Prop} (hY:∀ k,Y k->k<w.heap.size):∀ k,Y1 Y a v k->k<w.heap.size:=by
 intro k hk
 rcases hk with hk | hk | hk
 ·exact hY k hk
 ·rw [hk];exact aD h.blk
 ·exact aJ h.own k hk
theorem AC {w w1:World} {Y:Nat->Prop} {a b:Nat} {kind:Int} {v:Value} {ks:List Nat} {s:ByteArray} {st:St} {o:Obj} {g cap k:Nat} (h:LV w a kind v ks) (hR:RH w (Y1 Y a v) b s st) (ha:¬ Y a) (hv:∀ k,v.ownBlock=some k->¬ Y k) (hY:∀ k,Y k->k<w.heap.size)
  (hown:w1.ownsRow 0 3 1 (.slice (some ⟨g,0,none⟩) (ks.length+1) cap) (ks.length+1) (cG ks++[.int .i64 (k:Int)])) (hgrow:(w.alloc o).grownBy w1 v.ownBlock) (hat:v.ownBlock=some g\/g=w.heap.size+1):
  LV (w1.setCell ⟨a,2,none⟩ (.slice (some ⟨g,0,none⟩) (ks.length+1) cap)) a kind (.slice (some ⟨g,0,none⟩) (ks.length+1) cap) (ks++[k])/\
  RH (w1.setCell ⟨a,2,none⟩ (.slice (some ⟨g,0,none⟩) (ks.length+1) cap)) (Y1 Y a (.slice (some ⟨g,0,none⟩) (ks.length+1) cap)) b s st/\
  Kp Y w (w1.setCell ⟨a,2,none⟩ (.slice (some ⟨g,0,none⟩) (ks.length+1) cap))/\¬ Y g:=by
 have hal:=aD h.blk
 have hva:v.ownBlock≠some a:=cM h.blk h.own (by decide)
 have hb1:w1.heap[a]? = some (.cells #[.int .u8 kind,.string ⟨#[]⟩,v] 90 (0,0)):=(hgrow.block a (by simp;omega) (Ne.symm hva)).trans (heap_alloc_old _ h.blk)
 have XJ:Value.ownBlock (.slice (some ⟨g,0,none⟩) (ks.length+1) cap)≠some a:=cM hb1 hown (by decide)
 have kQ:¬ Y g:=by
  rcases hat with e | e
  ·exact hv g e
  ·intro hy;have:=hY g hy;omega
 refine ⟨⟨?_,?_⟩,?_,?_,kQ⟩
 ·have:=aK hb1 2 (.slice (some ⟨g,0,none⟩) (ks.length+1) cap)
  simpa using this
 ·have:=hown.kept (aT w1 a 2 (.slice (some ⟨g,0,none⟩) (ks.length+1) cap)) (Or.inr XJ)
  simpa [cG] using this
 ·have h1:RH w (fun k=>Y1 Y a v k\/k=w.heap.size+1) b s st:=hR.reY (by intro k hk hy;rcases hy with hy | hy;exact hy;omega)
  have h2:=((h1.alloc o).grown hgrow (by intro k e;exact Or.inl (Or.inr (Or.inr e)))).grown (aT w1 a 2 (.slice (some ⟨g,0,none⟩) (ks.length+1) cap)) (by intro k e;cases e;exact Or.inl (Or.inr (Or.inl rfl)))
  refine h2.reY ?_
  intro k _ hy
  rcases hy with hy | hy | hy
  ·exact Or.inl (Or.inl hy)
  ·exact Or.inl (Or.inr (Or.inl hy))
  ·have:g=k:=by simpa [Value.ownBlock] using hy
   subst this
   rcases hat with e | e
   ·exact Or.inl (Or.inr (Or.inr e))
   ·exact Or.inr e
 ·exact ((Kp.alloc Y w o).trans (Kp.of_grown hgrow hv)).trans (Kp.set _ _ _ _ ha)
def ED (w2:World) (Y:Nat->Prop) (b bb:Nat) (s:ByteArray) (st:St) (P0:List iD) (j0:Nat) (c:Int) (rb:cN (List PT)) (gk:Nat) (wv:World):Prop:=
 ∃ vb ks,LV wv bb 115 vb ks/\(∀ k,vb.ownBlock=some k->¬ Y k)/\Kp Y w2 wv/\
  ((∃ ts j m,RH wv (Y1 Y bb vb) b s {st.upTo s j with P:=(bH ts P0).2}/\ks=(bH ts P0).1/\St.bd {st.upTo s j with P:=(bH ts P0).2} c/\st.i<=j/\j0<=j/\j<=s.size/\rb=(bU s m j).map (ts++·)/\4*(s.size-j)+3<=m/\s.size-j<gk/\ts.length<=j)\/
   (∃ st' p,RH wv (Y1 Y bb vb) b s st'/\st'.bad=true/\st'.i=p/\st'.bd (c+1)/\st.i<=p/\p<=s.size/\ks.length<=200/\(rb = .err p\/∃ l,rb = .ok l p/\qS (pk s p)=false)))
def EA (w:World) (Y:Nat->Prop) (b ab:Nat) (s:ByteArray) (st:St) (c:Int) (r:cN (List PT)) (gk:Nat) (morev:Value) (wv:World):Prop:=
 ∃ va ks,LV wv ab 97 va ks/\(∀ k,va.ownBlock=some k->¬ Y k)/\Kp Y w wv/\
  ((∃ acc j m,morev = .bool true/\RH wv (Y1 Y ab va) b s {st.upTo s j with P:=(bH acc st.P).2}/\ks=(bH acc st.P).1/\St.bd {st.upTo s j with P:=(bH acc st.P).2} c/\st.i<=j/\j<=s.size/\r=(cI s m j).map (acc++·)/\4*(s.size-j)+4<=m/\s.size-j<gk/\acc.length<=j)\/
   (∃ acc j,morev = .bool false/\RH wv (Y1 Y ab va) b s {st.upTo s j with P:=(bH acc st.P).2}/\ks=(bH acc st.P).1/\St.bd {st.upTo s j with P:=(bH acc st.P).2} (c+1)/\st.i<=j/\j<=s.size/\r = .ok acc j/\x8 (pk s j)=true/\acc.length<=j+1)\/
   (∃ st' p,morev = .bool false/\RH wv (Y1 Y ab va) b s st'/\st'.bad=true/\st'.i=p/\st'.bd (c+2)/\st.i<=p/\p<=s.size/\ks.length<=200/\(r = .err p\/∃ l,r = .ok l p/\x8 (pk s p)=false)))
theorem AW {c:Int} (h:qS c=false):c≠124/\x8 c=false:=by
 simp [qS,x8] at *
 omega
theorem O1 {c:Int} (h:qS c=true):c=124\/c=41\/c=47:=by
 simp [qS] at h
 omega
theorem OU {c:Int} (h:qS c=true):iK c=false:=by
 rcases O1 h with rfl | rfl | rfl <;> rfl
theorem Y3 (s:ByteArray) (n i:Nat) (h:qS (pk s i)=true):bU s (n+1) i = .ok [] i:=by
 rw [bU,if_neg (by simp [OU h])]
theorem FA {c:Int} (h:qS c=false):(c != 124)=true/\(c != 41)=true/\(c != 47)=true:=by
 simp [qS] at h
 simp
 omega
theorem OT {s:ByteArray} {n i:Nat} {t:PT} {j:Nat} (h:dX s (n+1) i = .ok t j):iK (pk s i)=true:=by
 rw [dX] at h
 by_cases h1:pk s i=91
 ·simp [iK,h1]
 ·rw [if_neg h1] at h
  by_cases h2:pk s i=40
  ·simp [iK,h2]
  ·rw [if_neg h2] at h
   by_cases h3:bG (pk s i)=true
   ·simp [iK,h3]
   ·rw [if_neg h3] at h;cases h
theorem IK (s:ByteArray) (n i:Nat) {t:PT} {j:Nat} (hn:∃ m,n=m+1) (h:dX s n i = .ok t j):bU s (n+1) i=(bU s n (gZ s t j).2).map fun l=>(gZ s t j).1::l:=by
 obtain ⟨m,rfl⟩:=hn
 rw [bU,if_pos (OT h),h];rfl
theorem DN (s:ByteArray) (n i:Nat) {p:Nat} (ts:List PT) (hn:∃ m,n=m+1) (h:dX s n i = .err p) (hst:qS (pk s i)=false):
  (bU s (n+1) i).map (ts++·) = .err p\/∃ l,(bU s (n+1) i).map (ts++·) = .ok l p/\qS (pk s p)=false:=by
 obtain ⟨m,rfl⟩:=hn
 by_cases hb:iK (pk s i)=true
 ·left;rw [bU,if_pos hb,h];rfl
 ·right
  rw [bU,if_neg hb]
  have hb':pk s i≠91/\pk s i≠40/\bG (pk s i)=false:=by
   simp [iK] at hb
   exact ⟨hb.1.1,hb.1.2,hb.2⟩
  rw [G8 s m i hb'.1 hb'.2.1 hb'.2.2] at h
  cases h
  exact ⟨_,rfl,hst⟩
theorem St.up_up (st:St) (s:ByteArray) (P1 P2:List iD) (j k:Nat) (h1:st.i<=j) (h2:j<=k) (hk:k<=s.size):({St.upTo {st.upTo s j with P:=P1} s k with P:=P2}:St)={st.upTo s k with P:=P2}:=by
 have:=St.upTo_upTo st s j k h1 h2 hk
 simp only [St.upTo] at *
 simpa using this
theorem VA (s:ByteArray) (n i:Nat):cI s (n+1) i=(bU s n i).bind fun b j=>if pk s j=124 then (cI s n (j+1)).map fun l => .seq b::l else .ok [.seq b] j:=by rw [cI]
theorem Tryz.infoInt:(Tryz.prog.info? 3).map (fun i=>(i.zero,i.size,i.bytes))=some (some (.int .i64 0),1,8):=by kernel_rfl
theorem FQ {s:ByteArray} {b i0:Nat} (hs:s.size<=120) (hbase:EF s b i0):AD s b i0:=by
 intro w Y st c h0 h hb hi hd hc hY n hn
 obtain ⟨i0,jO,hz0,hz1,hz2⟩:=info_parts Tryz.infoInt
 generalize hr:cI s n st.i=r
 have H0:Hid (EA w Y b w.heap.size s st c r (s.size-st.i+1) (.bool true) (w.alloc (.cells #[.int .u8 97,.string ⟨#[]⟩,.slice none 0 0] 90))):=by
  refine ⟨.slice none 0 0,[],⟨heap_alloc_new w _,World.ownsRow_nil _ _ _ _⟩,(by intro k hk;cases hk),Kp.alloc _ _ _,Or.inl ⟨[],st.i,n,rfl,?_,by rw [pP],?_,Nat.le_refl _,hi,?_,hn,by omega,by simp⟩⟩
  ·rw [pP,St.upTo_self]
   refine (h.reY ?_).alloc _
   intro k hk hy
   rcases hy with hy | hy | hy
   ·exact hy
   ·omega
   ·cases hy
  ·rw [pP,St.upTo_self];exact hd
  ·rw [hr];cases r <;> rfl
 have HD:=aB (And.intro hb (And.intro hi (And.intro hd hbase)))
 clear h hb hi hd hn hr hbase
 go_enter Tryz.func167,Tryz.ntmps167
 go_wp2_with fail
 go_loopg [4] (s.size-st.i+1) (fun gk mv wv=>EA w Y b w.heap.size s st c r gk mv wv)
 case atStart=>exact aA H0
 case round=>
  clear H0
  obtain ⟨va,ks,hLV,hva,hK,sN⟩:=hrel
  have hYr:∀ k,Y k->k<wr.heap.size:=fun k hk=>by have:=hY k hk;have:=hK.size;omega
  have a0:=aC hLV.blk 0
  have a1:=aC hLV.blk 1
  have a2:=aC hLV.blk 2
  simp at a0 a1 a2
  rcases sN with ⟨acc,j,m,rfl,hR,rfl,fQ,kD,hj,hr,hm,fW,hal⟩ | ⟨acc,j,rfl,hR,rfl,fQ,kD,hj,hr,hst,hal⟩ | ⟨st',p,rfl,hR,pL,xJ,fQ,eI,eG,xZ,hr⟩
  ·obtain ⟨m,rfl⟩:∃ m',m=m'+1:=⟨m-1,by omega⟩
   have c2:wr.cell? ⟨b,2,none⟩=some (.bool false):=hR.c2.trans (by show some (Value.bool st.bad)=_;rw [(aA HD).1])
   have haY:¬ Y w.heap.size:=fun hy=>Nat.lt_irrefl _ (hY _ hy)
   have yA:=hLV.lt hYr
   have aFJ:¬ Y1 Y w.heap.size va wr.heap.size:=fun hy=>Nat.lt_irrefl _ (yA _ hy)
   rw [VA] at hr
   generalize GO:bU s m j=rb at hr
   have H1:Hid (ED (wr.alloc (.cells #[.int .u8 115,.string ⟨#[]⟩,.slice none 0 0] 90)) (Y1 Y w.heap.size va) b wr.heap.size s st (bH acc st.P).2 j c rb (s.size-j+1) (wr.alloc (.cells #[.int .u8 115,.string ⟨#[]⟩,.slice none 0 0] 90))):=by
    refine ⟨.slice none 0 0,[],⟨heap_alloc_new wr _,World.ownsRow_nil _ _ _ _⟩,(by intro k hk;cases hk),Kp.refl _ _,Or.inl ⟨[],j,m,?_,by rw [pP],?_,kD,Nat.le_refl _,hj,?_,by omega,by omega,by simp⟩⟩
    ·rw [pP]
     refine (hR.reY ?_).alloc _
     intro k hk hy
     rcases hy with hy | hy | hy
     ·exact hy
     ·omega
     ·cases hy
    ·rw [pP];exact fQ
    ·rw [GO];cases rb <;> rfl
   have HLVa:=aB (And.intro (hLV.kept (Kp.alloc (Y1 Y w.heap.size va) wr (.cells #[.int .u8 115,.string ⟨#[]⟩,.slice none 0 0] 90)) (Or.inr (Or.inl rfl)) (fun k e=>Or.inr (Or.inr e))) (And.intro hva (And.intro hK (And.intro hYr (And.intro haY (And.intro yA aFJ))))))
   have HW:=aB (Kp.alloc Y wr (.cells #[.int .u8 115,.string ⟨#[]⟩,.slice none 0 0] 90))
   have HX:=aB (And.intro hr (And.intro kD (And.intro hal hm)))
   have TY:=fW
   clear fQ hr GO hR hLV hva hK hYr yA aFJ haY a0 a1 a2 fW kD hal hm
   go_wp2_with fail
   clear c2
   rename World=>wo
   go_loopg [6] (s.size-j+1) (fun gk _ wv=>ED (wo.alloc (.cells #[.int .u8 115,.string ⟨#[]⟩,.slice none 0 0] 90)) (Y1 Y w.heap.size va) b wo.heap.size s st (bH acc st.P).2 j c rb gk wv)
   case atStart=>exact aA H1
   case round=>
    clear H1
    obtain ⟨vb,kb,M2,yU,EN,sN⟩:=hrel
    have XS:∀ k,Y1 Y w.heap.size va k->k<wr.heap.size:=fun k hk=>by have:=(aA HLVa).2.2.2.2.2.1 k hk;have:=EN.size;simp at this;omega
    have b0:=aC M2.blk 0
    have b1:=aC M2.blk 1
    have b2:=aC M2.blk 2
    have fb:=aM M2.blk 2
    simp at b0 b1 b2
    rcases sN with ⟨ts,j2,m2,hR,rfl,fQ,TV,aIS,fR,GO,lV,fW,GL⟩ | ⟨st',p,hR,pL,xJ,fQ,eI,eG,xZ,GO⟩
    ·have c2:wr.cell? ⟨b,2,none⟩=some (.bool false):=hR.c2.trans (by show some (Value.bool st.bad)=_;rw [(aA HD).1])
     obtain ⟨m2,rfl⟩:∃ m',m2=m'+1:=⟨m2-1,by omega⟩
     have HP0:=aB (WH (i:=j2) hR hs rfl fR (aA HD).1)
     have HPn:=aB (fun n=>WH (i:=j2) (hR.drewN n) hs rfl fR (aA HD).1)
     cases hst:qS (pk s j2) with
     | true=>
      have HG:Hid (rb = .ok ts j2):=by
       show rb = .ok ts j2
       rw [GO,Y3 s m2 j2 hst]
       simp [cN.map]
      have HB:=aB (And.intro fQ (And.intro lV GL))
      clear GO fQ lV GL
      rcases O1 hst with hp | hp | hp
      ·rw [hp] at HP0 HPn
       have Hp:=aB hp
       clear hp hst
       go_wp2_with (go_at_call 58;first | (refine (aA HP0).mono ?_;rintro e w' ⟨rfl,n1,rfl⟩) | (refine (aA HPn _).mono ?_;rintro e w' ⟨rfl,n2,rfl⟩))
       refine (AL ⟨115,⟨#[]⟩,(bH ts (bH acc st.P).2).1⟩ vb ((hR.reY (fun k _ hy=>Or.inl hy)).drewN _) (St.P_le hs (by omega) fR (aA HB).1) XS M2.own yU).mono ?_
       rintro e w3 ⟨rfl,eF,vT⟩
       have hK3:=(Kp.drewN (Y1 Y w.heap.size va) wr _).trans vT
       clear vT
       have cZ:=((aA HLVa).1.kept EN (Or.inr (Or.inl rfl)) (fun k e=>Or.inr (Or.inr e))).kept hK3 (Or.inr (Or.inl rfl)) (fun k e=>Or.inr (Or.inr e))
       have a0:=aC cZ.blk 0
       have a1:=aC cZ.blk 1
       have a2:=aC cZ.blk 2
       have fa:=aM cZ.blk 2
       simp at a0 a1 a2
       have aCF:(bH acc st.P).1.length+1<=1000:=by rw [lK];have:=(aA HX).2.2.1;omega
       have EO:=aB (pO acc (.seq ts) st.P)
       rw [show enc (.seq ts) (bH acc st.P).2=((bH ts (bH acc st.P).2).2.length,(bH ts (bH acc st.P).2).2++[⟨115,⟨#[]⟩,(bH ts (bH acc st.P).2).1⟩]) from by rw [enc]] at EO
       generalize (bH acc st.P).1=ka at *
       clear b0 b1 b2 fb c2
       go_wp2_with (at_builtin;refine wpList_append_lies _ rfl (.tmp 71) (.tmp 73) 80 rfl 0 3 i0 (.int .i64 0) 1 8 Tryz.underlying80 jO hz0 hz1 hz2 rfl (by decide) va ka.length (cG ka) rfl (cZ.own.alloc _) ⟨w3.heap.size,0,none⟩ 1 1 [.int .i64 ((bH ts (bH acc st.P).2).2.length:Int)] rfl rfl (World.news_of_block (cs := #[.int .i64 ((bH ts (bH acc st.P).2).2.length:Int)]) (heap_alloc_new w3 _)) (by simp [Value.oneCell']) (by omega) (by unfold maxLen;omega) (by omega) (by omega) (w3.heap.size+1) (by simp) ?_)
       intro g cap w4 sK fS D6 _
       have C5:va.ownBlock≠some w.heap.size:=cM cZ.blk cZ.own (by decide)
       have D8:=aD cZ.blk
       have k1:w4.cell? ⟨w.heap.size,2,none⟩=some va:=by rw [fS.cell_far _ (by simp;omega) (Ne.symm C5),World.cell?_alloc_past _ _ _ D8];exact a2
       have k2:w4.frozen? ⟨w.heap.size,2,none⟩=false:=by rw [fS.frozen_far _ (by simp;omega) (Ne.symm C5),World.frozen?_alloc_past _ _ _ D8];exact fa
       have EL:∀ k,Y k->k<w3.heap.size:=fun k hk=>by have:=XS k (Or.inl hk);have:=hK3.size;omega
       obtain ⟨hL4,jP,hK4,kQ⟩:=AC cZ eF (aA HLVa).2.2.2.2.1 (aA HLVa).2.1 EL sK fS D6
       have YA:=aB (oZ (i:=j2) jP hs rfl fR (aA HD).1)
       rw [aA Hp] at YA
       have HF:=aB (And.intro hL4 (And.intro hK4 kQ))
       clear hL4 hK4 kQ a0 a1 a2 fa sK fS D6 cZ
       go_wp2_with (go_at_call 58;refine (aA YA).mono ?_;rintro e w5 ⟨rfl,jV,gL⟩)
       have jG:j2<s.size:=bY (by rw [aA Hp];decide)
       refine (oY jV hs jG (St.out_le (c:=c+1) hs (by omega) fR (St.bd_lay (aA HB).1 _)) (aA HD).1).mono ?_
       rintro e w6 ⟨rfl,rK,uK⟩
       go_wp2_with fail
       go_roundg (s.size-j)
       case measure=>exact TY
       case rel=>
        obtain ⟨hL4,hK4,kQ⟩:=aA HF
        rw [St.up_P st s _ j2 TV jG] at rK
        refine ⟨_,_,(hL4.kept gL (Or.inr (Or.inl rfl)) (fun k e=>Or.inr (Or.inr e))).kept uK (Or.inr (Or.inl rfl)) (fun k e=>Or.inr (Or.inr e)),?_,?_,Or.inl ⟨acc++[.seq ts],j2+1,m,rfl,?_,?_,?_,by omega,jG,?_,?_,by omega,?_⟩⟩
        ·intro k e;cases e;exact kQ
        ·exact ((((((aA HLVa).2.2.1.trans (aA HW)).trans (EN.mono (fun k _ hy=>Or.inl hy))).trans (hK3.mono (fun k _ hy=>Or.inl hy))).trans hK4).trans (gL.mono (fun k _ hy=>Or.inl hy))).trans (uK.mono (fun k _ hy=>Or.inl hy))
        ·rw [aA EO];exact rK
        ·rw [aA EO]
        ·rw [aA EO];exact St.bd_step (St.bd_lay (aA HB).1 _) TV jG (by omega)
        ·rw [(aA HX).1,aA HG]
         simp only [cN.bind]
         rw [if_pos (aA Hp),cN.map_map]
         simp
        ·have:=(aA HX).2.2.2
         omega
        ·have:=(aA HX).2.2.1
         rw [List.length_append]
         simp
         omega
      ·rw [hp] at HP0 HPn
       have Hp:=aB hp
       clear hp hst
       go_wp2_with (go_at_call 58;first | (refine (aA HP0).mono ?_;rintro e w' ⟨rfl,n1,rfl⟩) | (refine (aA HPn _).mono ?_;rintro e w' ⟨rfl,n2,rfl⟩))
       refine (AL ⟨115,⟨#[]⟩,(bH ts (bH acc st.P).2).1⟩ vb ((hR.reY (fun k _ hy=>Or.inl hy)).drewN _) (St.P_le hs (by omega) fR (aA HB).1) XS M2.own yU).mono ?_
       rintro e w3 ⟨rfl,eF,vT⟩
       have hK3:=(Kp.drewN (Y1 Y w.heap.size va) wr _).trans vT
       clear vT
       have cZ:=((aA HLVa).1.kept EN (Or.inr (Or.inl rfl)) (fun k e=>Or.inr (Or.inr e))).kept hK3 (Or.inr (Or.inl rfl)) (fun k e=>Or.inr (Or.inr e))
       have a0:=aC cZ.blk 0
       have a1:=aC cZ.blk 1
       have a2:=aC cZ.blk 2
       have fa:=aM cZ.blk 2
       simp at a0 a1 a2
       have aCF:(bH acc st.P).1.length+1<=1000:=by rw [lK];have:=(aA HX).2.2.1;omega
       have EO:=aB (pO acc (.seq ts) st.P)
       rw [show enc (.seq ts) (bH acc st.P).2=((bH ts (bH acc st.P).2).2.length,(bH ts (bH acc st.P).2).2++[⟨115,⟨#[]⟩,(bH ts (bH acc st.P).2).1⟩]) from by rw [enc]] at EO
       generalize (bH acc st.P).1=ka at *
       clear b0 b1 b2 fb c2
       go_wp2_with (at_builtin;refine wpList_append_lies _ rfl (.tmp 71) (.tmp 73) 80 rfl 0 3 i0 (.int .i64 0) 1 8 Tryz.underlying80 jO hz0 hz1 hz2 rfl (by decide) va ka.length (cG ka) rfl (cZ.own.alloc _) ⟨w3.heap.size,0,none⟩ 1 1 [.int .i64 ((bH ts (bH acc st.P).2).2.length:Int)] rfl rfl (World.news_of_block (cs := #[.int .i64 ((bH ts (bH acc st.P).2).2.length:Int)]) (heap_alloc_new w3 _)) (by simp [Value.oneCell']) (by omega) (by unfold maxLen;omega) (by omega) (by omega) (w3.heap.size+1) (by simp) ?_)
       intro g cap w4 sK fS D6 _
       have C5:va.ownBlock≠some w.heap.size:=cM cZ.blk cZ.own (by decide)
       have D8:=aD cZ.blk
       have k1:w4.cell? ⟨w.heap.size,2,none⟩=some va:=by rw [fS.cell_far _ (by simp;omega) (Ne.symm C5),World.cell?_alloc_past _ _ _ D8];exact a2
       have k2:w4.frozen? ⟨w.heap.size,2,none⟩=false:=by rw [fS.frozen_far _ (by simp;omega) (Ne.symm C5),World.frozen?_alloc_past _ _ _ D8];exact fa
       have EL:∀ k,Y k->k<w3.heap.size:=fun k hk=>by have:=XS k (Or.inl hk);have:=hK3.size;omega
       obtain ⟨hL4,jP,hK4,kQ⟩:=AC cZ eF (aA HLVa).2.2.2.2.1 (aA HLVa).2.1 EL sK fS D6
       have YA:=aB (oZ (i:=j2) jP hs rfl fR (aA HD).1)
       rw [aA Hp] at YA
       have HF:=aB (And.intro hL4 (And.intro hK4 kQ))
       clear hL4 hK4 kQ a0 a1 a2 fa sK fS D6 cZ
       go_wp2_with (go_at_call 58;refine (aA YA).mono ?_;rintro e w5 ⟨rfl,jV,gL⟩)
       go_roundg (s.size-j)
       case measure=>exact TY
       case rel=>
        obtain ⟨hL4,hK4,kQ⟩:=aA HF
        refine ⟨_,_,hL4.kept gL (Or.inr (Or.inl rfl)) (fun k e=>Or.inr (Or.inr e)),?_,?_,Or.inr (Or.inl ⟨acc++[.seq ts],j2,rfl,?_,?_,?_,TV,fR,?_,?_,?_⟩)⟩
        ·intro k e;cases e;exact kQ
        ·exact (((((aA HLVa).2.2.1.trans (aA HW)).trans (EN.mono (fun k _ hy=>Or.inl hy))).trans (hK3.mono (fun k _ hy=>Or.inl hy))).trans hK4).trans (gL.mono (fun k _ hy=>Or.inl hy))
        ·rw [aA EO];exact jV
        ·rw [aA EO]
        ·rw [aA EO];exact St.bd_lay (aA HB).1 _
        ·rw [(aA HX).1,aA HG]
         simp only [cN.bind]
         rw [if_neg (by rw [aA Hp];decide)]
         rfl
        ·rw [aA Hp];rfl
        ·have:=(aA HX).2.2.1
         rw [List.length_append]
         simp
         omega
      ·rw [hp] at HP0 HPn
       have Hp:=aB hp
       clear hp hst
       go_wp2_with (go_at_call 58;first | (refine (aA HP0).mono ?_;rintro e w' ⟨rfl,n1,rfl⟩) | (refine (aA HPn _).mono ?_;rintro e w' ⟨rfl,n2,rfl⟩))
       refine (AL ⟨115,⟨#[]⟩,(bH ts (bH acc st.P).2).1⟩ vb ((hR.reY (fun k _ hy=>Or.inl hy)).drewN _) (St.P_le hs (by omega) fR (aA HB).1) XS M2.own yU).mono ?_
       rintro e w3 ⟨rfl,eF,vT⟩
       have hK3:=(Kp.drewN (Y1 Y w.heap.size va) wr _).trans vT
       clear vT
       have cZ:=((aA HLVa).1.kept EN (Or.inr (Or.inl rfl)) (fun k e=>Or.inr (Or.inr e))).kept hK3 (Or.inr (Or.inl rfl)) (fun k e=>Or.inr (Or.inr e))
       have a0:=aC cZ.blk 0
       have a1:=aC cZ.blk 1
       have a2:=aC cZ.blk 2
       have fa:=aM cZ.blk 2
       simp at a0 a1 a2
       have aCF:(bH acc st.P).1.length+1<=1000:=by rw [lK];have:=(aA HX).2.2.1;omega
       have EO:=aB (pO acc (.seq ts) st.P)
       rw [show enc (.seq ts) (bH acc st.P).2=((bH ts (bH acc st.P).2).2.length,(bH ts (bH acc st.P).2).2++[⟨115,⟨#[]⟩,(bH ts (bH acc st.P).2).1⟩]) from by rw [enc]] at EO
       generalize (bH acc st.P).1=ka at *
       clear b0 b1 b2 fb c2
       go_wp2_with (at_builtin;refine wpList_append_lies _ rfl (.tmp 71) (.tmp 73) 80 rfl 0 3 i0 (.int .i64 0) 1 8 Tryz.underlying80 jO hz0 hz1 hz2 rfl (by decide) va ka.length (cG ka) rfl (cZ.own.alloc _) ⟨w3.heap.size,0,none⟩ 1 1 [.int .i64 ((bH ts (bH acc st.P).2).2.length:Int)] rfl rfl (World.news_of_block (cs := #[.int .i64 ((bH ts (bH acc st.P).2).2.length:Int)]) (heap_alloc_new w3 _)) (by simp [Value.oneCell']) (by omega) (by unfold maxLen;omega) (by omega) (by omega) (w3.heap.size+1) (by simp) ?_)
       intro g cap w4 sK fS D6 _
       have C5:va.ownBlock≠some w.heap.size:=cM cZ.blk cZ.own (by decide)
       have D8:=aD cZ.blk
       have k1:w4.cell? ⟨w.heap.size,2,none⟩=some va:=by rw [fS.cell_far _ (by simp;omega) (Ne.symm C5),World.cell?_alloc_past _ _ _ D8];exact a2
       have k2:w4.frozen? ⟨w.heap.size,2,none⟩=false:=by rw [fS.frozen_far _ (by simp;omega) (Ne.symm C5),World.frozen?_alloc_past _ _ _ D8];exact fa
       have EL:∀ k,Y k->k<w3.heap.size:=fun k hk=>by have:=XS k (Or.inl hk);have:=hK3.size;omega
       obtain ⟨hL4,jP,hK4,kQ⟩:=AC cZ eF (aA HLVa).2.2.2.2.1 (aA HLVa).2.1 EL sK fS D6
       have YA:=aB (oZ (i:=j2) jP hs rfl fR (aA HD).1)
       rw [aA Hp] at YA
       have HF:=aB (And.intro hL4 (And.intro hK4 kQ))
       clear hL4 hK4 kQ a0 a1 a2 fa sK fS D6 cZ
       go_wp2_with (go_at_call 58;refine (aA YA).mono ?_;rintro e w5 ⟨rfl,jV,gL⟩)
       go_roundg (s.size-j)
       case measure=>exact TY
       case rel=>
        obtain ⟨hL4,hK4,kQ⟩:=aA HF
        refine ⟨_,_,hL4.kept gL (Or.inr (Or.inl rfl)) (fun k e=>Or.inr (Or.inr e)),?_,?_,Or.inr (Or.inl ⟨acc++[.seq ts],j2,rfl,?_,?_,?_,TV,fR,?_,?_,?_⟩)⟩
        ·intro k e;cases e;exact kQ
        ·exact (((((aA HLVa).2.2.1.trans (aA HW)).trans (EN.mono (fun k _ hy=>Or.inl hy))).trans (hK3.mono (fun k _ hy=>Or.inl hy))).trans hK4).trans (gL.mono (fun k _ hy=>Or.inl hy))
        ·rw [aA EO];exact jV
        ·rw [aA EO]
        ·rw [aA EO];exact St.bd_lay (aA HB).1 _
        ·rw [(aA HX).1,aA HG]
         simp only [cN.bind]
         rw [if_neg (by rw [aA Hp];decide)]
         rfl
        ·rw [aA Hp];rfl
        ·have:=(aA HX).2.2.1
         rw [List.length_append]
         simp
         omega
     | false=>
      have hq:(pk s j2 != 124)=true/\(pk s j2 != 41)=true/\(pk s j2 != 47)=true:=FA hst
      obtain ⟨q1,q2,q3⟩:=hq
      have CR:∃ m3,m2=m3+1:=⟨m2-1,by omega⟩
      have aIR:(bH ts (bH acc st.P).2).1.length+1<=1000:=by rw [lK];omega
      have OC:=M2.lt XS
      have HB:=aB (And.intro fQ (And.intro GO (And.intro hst (And.intro GL lV))))
      have HBS:=aB (fun N=>(aA HD).2.2.2 (wr.drewN N) _ _ c (by show _<=j2;omega) (hR.drewN N) (aA HD).1 fR fQ (by omega) OC m2 (by show 4*(s.size-j2)+2<=m2;omega))
      clear fQ GO hst GL lV
      generalize hpa:pk s j2=a at *
      have Hpa:=aB hpa
      clear hpa
      go_wp2_with (go_at_call 58;first | (refine (aA HP0).mono ?_;rintro e w' ⟨rfl,n1,rfl⟩) | (refine (aA HPn _).mono ?_;rintro e w' ⟨rfl,n2,rfl⟩))
      refine (aA HBS _).mono ?_
      rintro e w3 ⟨vT,rL⟩
      have hK3:=(Kp.drewN (Y1 (Y1 Y w.heap.size va) _ vb) wr _).trans vT
      have UM:=M2.kept hK3 (Or.inr (Or.inl rfl)) (fun k e=>Or.inr (Or.inr e))
      have UO:=EN.trans (hK3.mono (fun k _ hy=>Or.inl hy))
      have EL:∀ k,Y1 Y w.heap.size va k->k<w3.heap.size:=fun k hk=>by have:=XS k hk;have:=hK3.size;omega
      clear vT HBS b0 b1 b2 fb c2
      generalize hkb:(bH ts (bH acc st.P).2).1=kb at *
      have HKB:=aB hkb
      clear hkb
      cases hg:dX s m2 j2 with
      | err p=>
       rw [show dX s m2 (st.upTo s j2).i = .err p from hg] at rL
       obtain ⟨⟨k,rfl⟩,⟨st',eF,pL,xJ,V8,j5⟩,hpi⟩:=rL
       have HP5:=aB (DZ eF hs (by rw [xJ];exact V8) pL)
       have HG:=aB (And.intro hg (And.intro pL (And.intro xJ j5)))
       clear hg pL xJ j5
       go_wp2_with fail
       refine (aA HP5).mono ?_
       rintro e w5 ⟨rfl,jV,gL⟩
       have vS:=UM.kept gL (Or.inr (Or.inl rfl)) (fun k e=>Or.inr (Or.inr e))
       have hY5:∀ k,Y1 Y w.heap.size va k->k<w5.heap.size:=fun k hk=>by have:=EL k hk;have:=gL.size;omega
       have b2':=aC vS.blk 2
       have fb':=aM vS.blk 2
       simp at b2'
       go_wp2_with (at_builtin;refine wpList_append_lies _ rfl (.tmp 62) (.tmp 64) 80 rfl 0 3 i0 (.int .i64 0) 1 8 Tryz.underlying80 jO hz0 hz1 hz2 rfl (by decide) vb kb.length (cG kb) rfl (vS.own.alloc _) ⟨w5.heap.size,0,none⟩ 1 1 [.int .i64 ((k:Nat):Int)] rfl rfl (World.news_of_block (cs := #[.int .i64 ((k:Nat):Int)]) (heap_alloc_new w5 _)) (by simp [Value.oneCell']) (by omega) (by unfold maxLen;omega) (by omega) (by omega) (w5.heap.size+1) (by simp) ?_)
       intro g cap w7 kC dP rJ _
       have xF:=cM vS.blk vS.own (by decide)
       have rI:=aD vS.blk
       have k1:w7.cell? ⟨wo.heap.size,2,none⟩=some vb:=by rw [dP.cell_far _ (by simp;omega) (Ne.symm xF),World.cell?_alloc_past _ _ _ rI];exact b2'
       have k2:w7.frozen? ⟨wo.heap.size,2,none⟩=false:=by rw [dP.frozen_far _ (by simp;omega) (Ne.symm xF),World.frozen?_alloc_past _ _ _ rI];exact fb'
       obtain ⟨q9,pM,rM,kQ⟩:=AC vS jV (aA HLVa).2.2.2.2.2.2 yU hY5 kC dP rJ
       have HF:=aB (And.intro q9 (And.intro pM (And.intro rM kQ)))
       clear q9 pM rM kQ b2' fb' kC dP rJ
       go_wp2_with fail
       go_roundg (s.size-j2)
       case measure=>exact fW
       case rel=>
        obtain ⟨q9,pM,rM,kQ⟩:=aA HF
        refine ⟨_,_,q9,?_,(UO.trans (gL.mono (fun k _ hy=>Or.inl hy))).trans rM,Or.inr ⟨st',p,pM,(aA HG).2.1,(aA HG).2.2.1,(aA HG).2.2.2,?_,V8,?_,?_⟩⟩
        ·intro k e;cases e;exact kQ
        ·have:j2<=p:=hpi
         omega
        ·rw [List.length_append,← aA HKB,lK]
         have:=(aA HB).2.2.2.1
         simp
         omega
        ·rw [(aA HB).2.1]
         exact DN s m2 j2 ts CR (aA HG).1 (by rw [aA Hpa];exact (aA HB).2.2.1)
      | ok t j3=>
       rw [show dX s m2 (st.upTo s j2).i = .ok t j3 from hg] at rL
       obtain ⟨EJ,aF1,rfl,eF,j5⟩:=rL
       have aI7:j2<j3:=aF1
       rw [St.up_up st s _ _ j2 j3 TV (by omega) EJ] at eF j5
       have HP5:=aB (oZ (i:=j3) eF hs rfl EJ (aA HD).1)
       have HGB:=aB (IK s m2 j2 CR hg)
       have HG:=aB j5
       have HE:=aB (pO ts (gZ s t j3).1 (bH acc st.P).2)
       clear hg j5 aF1
       by_cases eI:pk s j3=42
       ·have hp:=eI
        clear eI
        rw [hp] at HP5
        rw [show gZ s t j3=(.rep 42 t,j3+1) from by simp [gZ,hp]] at HE HGB
        have jG:j3<s.size:=bY (by rw [hp];decide)
        clear hp
        go_wp2_with (go_at_call 58;refine (aA HP5).mono ?_;rintro e w5 ⟨rfl,jV,gL⟩)
        refine (oY jV hs jG (St.out_le hs (by omega) EJ (aA HG)) (aA HD).1).mono ?_
        rintro e w6 ⟨rfl,rK,uK⟩
        rw [St.up_P st s _ j3 (by omega) jG] at rK
        have xO:=gL.trans uK
        have CX:=UM.kept xO (Or.inr (Or.inl rfl)) (fun k e=>Or.inr (Or.inr e))
        have hY6:=CX.lt (Y:=Y1 Y w.heap.size va) (fun k hk=>by have:=EL k hk;have:=xO.size;omega)
        go_wp2_with fail
        refine (AL ⟨42,⟨#[]⟩,[(enc t (bH ts (bH acc st.P).2).2).1]⟩ (.slice (some ⟨w6.heap.size,0,none⟩) 1 1) (rK.alloc _) (St.P_le hs (by omega) jG (St.bd_step (c:=c) (aA HG) (by omega) jG (by omega))) (fun k hk=>by have:=hY6 k hk;simp;omega) (World.ownsRow_lit w6 _ 1 (by omega) (by unfold maxLen;omega) rfl) (by intro k e hy;have:=hY6 k hy;simp [Value.ownBlock] at e;omega)).mono ?_
        rintro e w8 ⟨rfl,uJ,R0⟩
        have E7:=(Kp.alloc (Y1 (Y1 Y w.heap.size va) _ vb) w6 _).trans R0
        have nO:=CX.kept E7 (Or.inr (Or.inl rfl)) (fun k e=>Or.inr (Or.inr e))
        have hY8:∀ k,Y1 Y w.heap.size va k->k<w8.heap.size:=fun k hk=>by have:=EL k hk;have:=xO.size;have:=E7.size;omega
        have b2':=aC nO.blk 2
        have fb':=aM nO.blk 2
        simp at b2'
        go_wp2_with (at_builtin;refine wpList_append_lies _ rfl (.tmp 62) (.tmp 64) 80 rfl 0 3 i0 (.int .i64 0) 1 8 Tryz.underlying80 jO hz0 hz1 hz2 rfl (by decide) vb kb.length (cG kb) rfl (nO.own.alloc _) ⟨w8.heap.size,0,none⟩ 1 1 [.int .i64 (((enc t (bH ts (bH acc st.P).2).2).2.length:Nat):Int)] rfl rfl (World.news_of_block (cs := #[.int .i64 (((enc t (bH ts (bH acc st.P).2).2).2.length:Nat):Int)]) (heap_alloc_new w8 _)) (by simp [Value.oneCell']) (by omega) (by unfold maxLen;omega) (by omega) (by omega) (w8.heap.size+1) (by simp) ?_)
        intro g cap w7 kC dP rJ _
        have xF:=cM nO.blk nO.own (by decide)
        have rI:=aD nO.blk
        have k1:w7.cell? ⟨wo.heap.size,2,none⟩=some vb:=by rw [dP.cell_far _ (by simp;omega) (Ne.symm xF),World.cell?_alloc_past _ _ _ rI];exact b2'
        have k2:w7.frozen? ⟨wo.heap.size,2,none⟩=false:=by rw [dP.frozen_far _ (by simp;omega) (Ne.symm xF),World.frozen?_alloc_past _ _ _ rI];exact fb'
        obtain ⟨q9,pM,rM,kQ⟩:=AC nO uJ (aA HLVa).2.2.2.2.2.2 yU hY8 kC dP rJ
        have HF:=aB (And.intro q9 (And.intro pM (And.intro rM kQ)))
        clear q9 pM rM kQ b2' fb' kC dP rJ
        go_wp2_with fail
        go_roundg (s.size-j2)
        case measure=>exact fW
        case rel=>
         obtain ⟨q9,pM,rM,kQ⟩:=aA HF
         refine ⟨_,_,q9,?_,((UO.trans (xO.mono (fun k _ hy=>Or.inl hy))).trans (E7.mono (fun k _ hy=>Or.inl hy))).trans rM,Or.inl ⟨ts++[.rep 42 t],j3+1,m2,?_,?_,?_,by omega,by omega,jG,?_,?_,by omega,?_⟩⟩
         ·intro k e;cases e;exact kQ
         ·rw [aA HE,enc];exact pM
         ·rw [aA HE,enc,aA HKB]
         ·rw [aA HE,enc];exact St.bd_mono (St.bd_lay (St.bd_step (c:=c-1) (aA HG) (by omega) jG (by omega)) _) (by omega)
         ·rw [(aA HB).2.1,aA HGB,cN.map_map];simp
         ·have:=(aA HB).2.2.2.2
          omega
         ·have:=(aA HB).2.2.2.1
          rw [List.length_append]
          simp
          omega
       ·by_cases eG:pk s j3=43
        ·have hp:=eG
         clear eG eI
         rw [hp] at HP5
         rw [show gZ s t j3=(.rep 43 t,j3+1) from by simp [gZ,hp]] at HE HGB
         have jG:j3<s.size:=bY (by rw [hp];decide)
         clear hp
         go_wp2_with (go_at_call 58;refine (aA HP5).mono ?_;rintro e w5 ⟨rfl,jV,gL⟩)
         refine (oY jV hs jG (St.out_le hs (by omega) EJ (aA HG)) (aA HD).1).mono ?_
         rintro e w6 ⟨rfl,rK,uK⟩
         rw [St.up_P st s _ j3 (by omega) jG] at rK
         have xO:=gL.trans uK
         have CX:=UM.kept xO (Or.inr (Or.inl rfl)) (fun k e=>Or.inr (Or.inr e))
         have hY6:=CX.lt (Y:=Y1 Y w.heap.size va) (fun k hk=>by have:=EL k hk;have:=xO.size;omega)
         go_wp2_with fail
         refine (AL ⟨43,⟨#[]⟩,[(enc t (bH ts (bH acc st.P).2).2).1]⟩ (.slice (some ⟨w6.heap.size,0,none⟩) 1 1) (rK.alloc _) (St.P_le hs (by omega) jG (St.bd_step (c:=c) (aA HG) (by omega) jG (by omega))) (fun k hk=>by have:=hY6 k hk;simp;omega) (World.ownsRow_lit w6 _ 1 (by omega) (by unfold maxLen;omega) rfl) (by intro k e hy;have:=hY6 k hy;simp [Value.ownBlock] at e;omega)).mono ?_
         rintro e w8 ⟨rfl,uJ,R0⟩
         have E7:=(Kp.alloc (Y1 (Y1 Y w.heap.size va) _ vb) w6 _).trans R0
         have nO:=CX.kept E7 (Or.inr (Or.inl rfl)) (fun k e=>Or.inr (Or.inr e))
         have hY8:∀ k,Y1 Y w.heap.size va k->k<w8.heap.size:=fun k hk=>by have:=EL k hk;have:=xO.size;have:=E7.size;omega
         have b2':=aC nO.blk 2
         have fb':=aM nO.blk 2
         simp at b2'
         go_wp2_with (at_builtin;refine wpList_append_lies _ rfl (.tmp 62) (.tmp 64) 80 rfl 0 3 i0 (.int .i64 0) 1 8 Tryz.underlying80 jO hz0 hz1 hz2 rfl (by decide) vb kb.length (cG kb) rfl (nO.own.alloc _) ⟨w8.heap.size,0,none⟩ 1 1 [.int .i64 (((enc t (bH ts (bH acc st.P).2).2).2.length:Nat):Int)] rfl rfl (World.news_of_block (cs := #[.int .i64 (((enc t (bH ts (bH acc st.P).2).2).2.length:Nat):Int)]) (heap_alloc_new w8 _)) (by simp [Value.oneCell']) (by omega) (by unfold maxLen;omega) (by omega) (by omega) (w8.heap.size+1) (by simp) ?_)
         intro g cap w7 kC dP rJ _
         have xF:=cM nO.blk nO.own (by decide)
         have rI:=aD nO.blk
         have k1:w7.cell? ⟨wo.heap.size,2,none⟩=some vb:=by rw [dP.cell_far _ (by simp;omega) (Ne.symm xF),World.cell?_alloc_past _ _ _ rI];exact b2'
         have k2:w7.frozen? ⟨wo.heap.size,2,none⟩=false:=by rw [dP.frozen_far _ (by simp;omega) (Ne.symm xF),World.frozen?_alloc_past _ _ _ rI];exact fb'
         obtain ⟨q9,pM,rM,kQ⟩:=AC nO uJ (aA HLVa).2.2.2.2.2.2 yU hY8 kC dP rJ
         have HF:=aB (And.intro q9 (And.intro pM (And.intro rM kQ)))
         clear q9 pM rM kQ b2' fb' kC dP rJ
         go_wp2_with fail
         go_roundg (s.size-j2)
         case measure=>exact fW
         case rel=>
          obtain ⟨q9,pM,rM,kQ⟩:=aA HF
          refine ⟨_,_,q9,?_,((UO.trans (xO.mono (fun k _ hy=>Or.inl hy))).trans (E7.mono (fun k _ hy=>Or.inl hy))).trans rM,Or.inl ⟨ts++[.rep 43 t],j3+1,m2,?_,?_,?_,by omega,by omega,jG,?_,?_,by omega,?_⟩⟩
          ·intro k e;cases e;exact kQ
          ·rw [aA HE,enc];exact pM
          ·rw [aA HE,enc,aA HKB]
          ·rw [aA HE,enc];exact St.bd_mono (St.bd_lay (St.bd_step (c:=c-1) (aA HG) (by omega) jG (by omega)) _) (by omega)
          ·rw [(aA HB).2.1,aA HGB,cN.map_map];simp
          ·have:=(aA HB).2.2.2.2
           omega
          ·have:=(aA HB).2.2.2.1
           rw [List.length_append]
           simp
           omega
        ·by_cases oT:pk s j3=63
         ·have hp:=oT
          clear oT eI eG
          rw [hp] at HP5
          rw [show gZ s t j3=(.rep 63 t,j3+1) from by simp [gZ,hp]] at HE HGB
          have jG:j3<s.size:=bY (by rw [hp];decide)
          clear hp
          go_wp2_with (go_at_call 58;refine (aA HP5).mono ?_;rintro e w5 ⟨rfl,jV,gL⟩)
          refine (oY jV hs jG (St.out_le hs (by omega) EJ (aA HG)) (aA HD).1).mono ?_
          rintro e w6 ⟨rfl,rK,uK⟩
          rw [St.up_P st s _ j3 (by omega) jG] at rK
          have xO:=gL.trans uK
          have CX:=UM.kept xO (Or.inr (Or.inl rfl)) (fun k e=>Or.inr (Or.inr e))
          have hY6:=CX.lt (Y:=Y1 Y w.heap.size va) (fun k hk=>by have:=EL k hk;have:=xO.size;omega)
          go_wp2_with fail
          refine (AL ⟨63,⟨#[]⟩,[(enc t (bH ts (bH acc st.P).2).2).1]⟩ (.slice (some ⟨w6.heap.size,0,none⟩) 1 1) (rK.alloc _) (St.P_le hs (by omega) jG (St.bd_step (c:=c) (aA HG) (by omega) jG (by omega))) (fun k hk=>by have:=hY6 k hk;simp;omega) (World.ownsRow_lit w6 _ 1 (by omega) (by unfold maxLen;omega) rfl) (by intro k e hy;have:=hY6 k hy;simp [Value.ownBlock] at e;omega)).mono ?_
          rintro e w8 ⟨rfl,uJ,R0⟩
          have E7:=(Kp.alloc (Y1 (Y1 Y w.heap.size va) _ vb) w6 _).trans R0
          have nO:=CX.kept E7 (Or.inr (Or.inl rfl)) (fun k e=>Or.inr (Or.inr e))
          have hY8:∀ k,Y1 Y w.heap.size va k->k<w8.heap.size:=fun k hk=>by have:=EL k hk;have:=xO.size;have:=E7.size;omega
          have b2':=aC nO.blk 2
          have fb':=aM nO.blk 2
          simp at b2'
          go_wp2_with (at_builtin;refine wpList_append_lies _ rfl (.tmp 62) (.tmp 64) 80 rfl 0 3 i0 (.int .i64 0) 1 8 Tryz.underlying80 jO hz0 hz1 hz2 rfl (by decide) vb kb.length (cG kb) rfl (nO.own.alloc _) ⟨w8.heap.size,0,none⟩ 1 1 [.int .i64 (((enc t (bH ts (bH acc st.P).2).2).2.length:Nat):Int)] rfl rfl (World.news_of_block (cs := #[.int .i64 (((enc t (bH ts (bH acc st.P).2).2).2.length:Nat):Int)]) (heap_alloc_new w8 _)) (by simp [Value.oneCell']) (by omega) (by unfold maxLen;omega) (by omega) (by omega) (w8.heap.size+1) (by simp) ?_)
          intro g cap w7 kC dP rJ _
          have xF:=cM nO.blk nO.own (by decide)
          have rI:=aD nO.blk
          have k1:w7.cell? ⟨wo.heap.size,2,none⟩=some vb:=by rw [dP.cell_far _ (by simp;omega) (Ne.symm xF),World.cell?_alloc_past _ _ _ rI];exact b2'
          have k2:w7.frozen? ⟨wo.heap.size,2,none⟩=false:=by rw [dP.frozen_far _ (by simp;omega) (Ne.symm xF),World.frozen?_alloc_past _ _ _ rI];exact fb'
          obtain ⟨q9,pM,rM,kQ⟩:=AC nO uJ (aA HLVa).2.2.2.2.2.2 yU hY8 kC dP rJ
          have HF:=aB (And.intro q9 (And.intro pM (And.intro rM kQ)))
          clear q9 pM rM kQ b2' fb' kC dP rJ
          go_wp2_with fail
          go_roundg (s.size-j2)
          case measure=>exact fW
          case rel=>
           obtain ⟨q9,pM,rM,kQ⟩:=aA HF
           refine ⟨_,_,q9,?_,((UO.trans (xO.mono (fun k _ hy=>Or.inl hy))).trans (E7.mono (fun k _ hy=>Or.inl hy))).trans rM,Or.inl ⟨ts++[.rep 63 t],j3+1,m2,?_,?_,?_,by omega,by omega,jG,?_,?_,by omega,?_⟩⟩
           ·intro k e;cases e;exact kQ
           ·rw [aA HE,enc];exact pM
           ·rw [aA HE,enc,aA HKB]
           ·rw [aA HE,enc];exact St.bd_mono (St.bd_lay (St.bd_step (c:=c-1) (aA HG) (by omega) jG (by omega)) _) (by omega)
           ·rw [(aA HB).2.1,aA HGB,cN.map_map];simp
           ·have:=(aA HB).2.2.2.2
            omega
           ·have:=(aA HB).2.2.2.1
            rw [List.length_append]
            simp
            omega
         ·have b8:(pk s j3==42)=false/\(pk s j3==43)=false/\(pk s j3==63)=false:=by simp;omega
          obtain ⟨q4,q5,q6⟩:=b8
          rw [show gZ s t j3=(t,j3) from by simp [gZ];omega] at HE HGB
          clear eI eG oT
          generalize pk s j3=a3 at *
          go_wp2_with fail
          refine (aA HP5).mono ?_
          rintro e w5 ⟨rfl,jV,gL⟩
          have vS:=UM.kept gL (Or.inr (Or.inl rfl)) (fun k e=>Or.inr (Or.inr e))
          have hY5:∀ k,Y1 Y w.heap.size va k->k<w5.heap.size:=fun k hk=>by have:=EL k hk;have:=gL.size;omega
          have b2':=aC vS.blk 2
          have fb':=aM vS.blk 2
          simp at b2'
          go_wp2_with (at_builtin;refine wpList_append_lies _ rfl (.tmp 62) (.tmp 64) 80 rfl 0 3 i0 (.int .i64 0) 1 8 Tryz.underlying80 jO hz0 hz1 hz2 rfl (by decide) vb kb.length (cG kb) rfl (vS.own.alloc _) ⟨w5.heap.size,0,none⟩ 1 1 [.int .i64 (((enc t (bH ts (bH acc st.P).2).2).1:Nat):Int)] rfl rfl (World.news_of_block (cs := #[.int .i64 (((enc t (bH ts (bH acc st.P).2).2).1:Nat):Int)]) (heap_alloc_new w5 _)) (by simp [Value.oneCell']) (by omega) (by unfold maxLen;omega) (by omega) (by omega) (w5.heap.size+1) (by simp) ?_)
          intro g cap w7 kC dP rJ _
          have xF:=cM vS.blk vS.own (by decide)
          have rI:=aD vS.blk
          have k1:w7.cell? ⟨wo.heap.size,2,none⟩=some vb:=by rw [dP.cell_far _ (by simp;omega) (Ne.symm xF),World.cell?_alloc_past _ _ _ rI];exact b2'
          have k2:w7.frozen? ⟨wo.heap.size,2,none⟩=false:=by rw [dP.frozen_far _ (by simp;omega) (Ne.symm xF),World.frozen?_alloc_past _ _ _ rI];exact fb'
          obtain ⟨q9,pM,rM,kQ⟩:=AC vS jV (aA HLVa).2.2.2.2.2.2 yU hY5 kC dP rJ
          have HF:=aB (And.intro q9 (And.intro pM (And.intro rM kQ)))
          clear q9 pM rM kQ b2' fb' kC dP rJ
          go_wp2_with fail
          go_roundg (s.size-j2)
          case measure=>exact fW
          case rel=>
           obtain ⟨q9,pM,rM,kQ⟩:=aA HF
           refine ⟨_,_,q9,?_,(UO.trans (gL.mono (fun k _ hy=>Or.inl hy))).trans rM,Or.inl ⟨ts++[t],j3,m2,?_,?_,?_,by omega,by omega,EJ,?_,?_,by omega,?_⟩⟩
           ·intro k e;cases e;exact kQ
           ·rw [aA HE];exact pM
           ·rw [aA HE,aA HKB]
           ·rw [aA HE];exact aA HG
           ·rw [(aA HB).2.1,aA HGB,cN.map_map];simp
           ·have:=(aA HB).2.2.2.2
            omega
           ·have:=(aA HB).2.2.2.1
            rw [List.length_append]
            simp
            omega
    ·have c2:wr.cell? ⟨b,2,none⟩=some (.bool true):=hR.c2.trans (by rw [pL])
     have HB:=aB (And.intro pL (And.intro xJ (And.intro fQ (And.intro GO xZ))))
     clear pL xJ fQ GO xZ
     go_wp2_with fail
     refine (AL ⟨115,⟨#[]⟩,kb⟩ vb (hR.reY (fun k _ hy=>Or.inl hy)) (St.P_le hs (by omega) (by rw [(aA HB).2.1];exact eG) (aA HB).2.2.1) XS M2.own yU).mono ?_
     rintro e w3 ⟨rfl,eF,hK3⟩
     have cZ:=((aA HLVa).1.kept EN (Or.inr (Or.inl rfl)) (fun k e=>Or.inr (Or.inr e))).kept hK3 (Or.inr (Or.inl rfl)) (fun k e=>Or.inr (Or.inr e))
     have a0:=aC cZ.blk 0
     have a1:=aC cZ.blk 1
     have a2:=aC cZ.blk 2
     have fa:=aM cZ.blk 2
     simp at a0 a1 a2
     have aCF:(bH acc st.P).1.length+1<=1000:=by rw [lK];have:=(aA HX).2.2.1;omega
     generalize hka:(bH acc st.P).1=ka at *
     have EO:=aB hka
     clear b0 b1 b2 fb c2 hka
     go_wp2_with (at_builtin;refine wpList_append_lies _ rfl (.tmp 71) (.tmp 73) 80 rfl 0 3 i0 (.int .i64 0) 1 8 Tryz.underlying80 jO hz0 hz1 hz2 rfl (by decide) va ka.length (cG ka) rfl (cZ.own.alloc _) ⟨w3.heap.size,0,none⟩ 1 1 [.int .i64 (st'.P.length:Int)] rfl rfl (World.news_of_block (cs := #[.int .i64 (st'.P.length:Int)]) (heap_alloc_new w3 _)) (by simp [Value.oneCell']) (by omega) (by unfold maxLen;omega) (by omega) (by omega) (w3.heap.size+1) (by simp) ?_)
     intro g cap w4 sK fS D6 _
     have C5:va.ownBlock≠some w.heap.size:=cM cZ.blk cZ.own (by decide)
     have D8:=aD cZ.blk
     have k1:w4.cell? ⟨w.heap.size,2,none⟩=some va:=by rw [fS.cell_far _ (by simp;omega) (Ne.symm C5),World.cell?_alloc_past _ _ _ D8];exact a2
     have k2:w4.frozen? ⟨w.heap.size,2,none⟩=false:=by rw [fS.frozen_far _ (by simp;omega) (Ne.symm C5),World.frozen?_alloc_past _ _ _ D8];exact fa
     have EL:∀ k,Y k->k<w3.heap.size:=fun k hk=>by have:=XS k (Or.inl hk);have:=hK3.size;omega
     obtain ⟨hL4,jP,hK4,kQ⟩:=AC cZ eF (aA HLVa).2.2.2.2.1 (aA HLVa).2.1 EL sK fS D6
     have YA:=aB (DZ jP hs (by show st'.i<=s.size;rw [(aA HB).2.1];exact eG) (aA HB).1)
     have HF:=aB (And.intro hL4 (And.intro hK4 kQ))
     clear hL4 hK4 kQ a0 a1 a2 fa sK fS D6 cZ
     go_wp2_with (go_at_call 58;refine (aA YA).mono ?_;rintro e w5 ⟨rfl,jV,gL⟩)
     go_roundg (s.size-j)
     case measure=>exact TY
     case rel=>
      obtain ⟨hL4,hK4,kQ⟩:=aA HF
      refine ⟨_,_,hL4.kept gL (Or.inr (Or.inl rfl)) (fun k e=>Or.inr (Or.inr e)),?_,?_,Or.inr (Or.inr ⟨_,p,rfl,jV,(aA HB).1,(aA HB).2.1,?_,eI,eG,?_,?_⟩)⟩
      ·intro k e;cases e;exact kQ
      ·exact (((((aA HLVa).2.2.1.trans (aA HW)).trans (EN.mono (fun k _ hy=>Or.inl hy))).trans (hK3.mono (fun k _ hy=>Or.inl hy))).trans hK4).trans (gL.mono (fun k _ hy=>Or.inl hy))
      ·exact St.bd_mono (St.bd_lay (aA HB).2.2.1 _) (by omega)
      ·have:=(aA HX).2.2.1
       rw [List.length_append,← aA EO,lK]
       simp
       omega
      ·rw [(aA HX).1]
       rcases (aA HB).2.2.2.1 with e | ⟨l,e,hst⟩
       ·left;rw [e];rfl
       ·right
        rw [e]
        simp only [cN.bind]
        rw [if_neg (AW hst).1]
        exact ⟨_,rfl,(AW hst).2⟩
  ·have HX:=aB (And.intro fQ (And.intro hr hst))
   clear fQ hr hst
   go_wp2_with fail
   refine (AL ⟨97,⟨#[]⟩,(bH acc st.P).1⟩ va (hR.reY (fun k _ hy=>Or.inl hy)) (St.P_le hs (by omega) hj (aA HX).1) hYr hLV.own hva).mono ?_
   rintro e w3 ⟨rfl,eF,hK3⟩
   go_wp2
   go_ret
   refine ⟨hK.trans hK3,?_⟩
   rw [(aA HX).2.1]
   refine ⟨hj,kD,?_⟩
   rw [if_pos (aA HX).2.2]
   refine ⟨by simp [enc],by simpa [enc] using eF,?_⟩
   have:=St.bd_lay (aA HX).1 ⟨97,⟨#[]⟩,(bH acc st.P).1⟩
   simpa [enc] using St.bd_mono this (by omega)
  ·have HX:=aB (And.intro fQ (And.intro hr (And.intro pL xJ)))
   clear fQ hr pL xJ
   go_wp2_with fail
   refine (AL ⟨97,⟨#[]⟩,ks⟩ va (hR.reY (fun k _ hy=>Or.inl hy)) (St.P_le hs (by omega) (by rw [(aA HX).2.2.2];exact eG) (aA HX).1) hYr hLV.own hva).mono ?_
   rintro e w3 ⟨rfl,eF,hK3⟩
   go_wp2
   go_ret
   refine ⟨hK.trans hK3,?_⟩
   have hB:dH w3 Y b s p (c+10):=⟨_,eF,(aA HX).2.2.1,(aA HX).2.2.2,eG,St.bd_mono (St.bd_lay (aA HX).1 _) (by omega)⟩
   rcases (aA HX).2.1 with hr | ⟨l,hr,hst⟩
   ·rw [hr];exact ⟨⟨_,rfl⟩,hB,eI⟩
   ·rw [hr]
    refine ⟨eG,eI,?_⟩
    rw [if_neg (by simp [hst])]
    exact ⟨⟨_,rfl⟩,hB⟩
theorem KN (s:ByteArray) (b:Nat) (hs:s.size<=120):∀ d i0,s.size+1-i0<=d->AD s b i0
 | 0,i0,h=>by
  intro w Y st c h0 _ _ hi
  omega
 | d+1,i0,h=>FQ hs (aB2 hs (KN s b hs d (i0+1) (by omega)))
theorem WI {w:World} {Y:Nat->Prop} {b:Nat} {s:ByteArray} {st:St} {c:Int} (h:RH w Y b s st) (hs:s.size<=120) (hb:st.bad=false) (hi:st.i<=s.size) (hd:st.bd c) (hc:c<=4000) (hY:∀ k,Y k->k<w.heap.size) (n:Nat) (hn:4*(s.size-st.i)+4<=n):
  Calls Tryz.prog 167 #[.pointer (some ⟨b,0,none⟩)] w fun e w'=>Kp Y w w'/\LZ Y b s st c e w' (cI s n st.i):=
 KN s b hs (s.size+1) 0 (by omega) w Y st c (Nat.zero_le _) h hb hi hd hc hY n hn
def BR (w:World) (g n c:Nat) (f:Nat->Bool):Prop:=w.ownsRow 0 4 1 (.slice (some ⟨g,0,none⟩) n c) n ((List.range n).map fun j => .bool (f j))
def K0 (w w':World):Prop:=Kp (fun _=>True) w w'
theorem K0.refl (w:World):K0 w w:=Kp.refl _ _
theorem K0.trans {a b c:World} (h:K0 a b) (k:K0 b c):K0 a c:=Kp.trans h k
theorem K0.heap {w w':World} (h:K0 w w') {k:Nat} (hk:k<w.heap.size):w'.heap[k]? = w.heap[k]? := h.block k hk trivial
theorem K0.kp {w w':World} (h:K0 w w') (Y:Nat->Prop):Kp Y w w':=Kp.mono h (fun _ _ _=>trivial)
theorem BR.cell {w:World} {g n c:Nat} {f:Nat->Bool} (h:BR w g n c f) (k:Nat) (hk:k<n):w.cell? ⟨g,k,none⟩=some (.bool (f k)):=by
 rw [World.ownsRow.cellAt h k (by omega)]
 simp [hk]
theorem BR.fz {w:World} {g n c:Nat} {f:Nat->Bool} (h:BR w g n c f) (k:Nat):w.frozen? ⟨g,k,none⟩=false:=World.ownsRow.frozenAt h k
theorem BR.lt {w:World} {g n c:Nat} {f:Nat->Bool} (h:BR w g n c f):g<w.heap.size:=aJ h g rfl
theorem BR.kept {w w':World} {g n c:Nat} {f:Nat->Bool} (h:BR w g n c f) (hk:w'.heap[g]? = w.heap[g]?):BR w' g n c f:=aI h (fun k e=>by
 have:g=k:=by simpa [Value.ownBlock] using e
 subst this;exact hk)
theorem BR.k0 {w w':World} {g n c:Nat} {f:Nat->Bool} (h:BR w g n c f) (hk:K0 w w'):BR w' g n c f:=h.kept (hk.heap h.lt)
def K8 (f:Nat->Bool) (k:Nat) (x:Bool) (j:Nat):Bool:=if j=k then x else f j
theorem BR.congr {w:World} {g n c:Nat} {f f':Nat->Bool} (h:BR w g n c f) (he:∀ j,j<n->f j=f' j):BR w g n c f':=by
 unfold BR at *
 rw [List.map_congr_left (g:=fun j=>Value.bool (f' j)) (fun j hj=>by rw [he j (by simpa using hj)])] at h
 exact h
theorem BR.set {w:World} {g n c:Nat} {f:Nat->Bool} (h:BR w g n c f) (k:Nat) (x:Bool):BR (w.setCell ⟨g,k,none⟩ (.bool x)) g n c (K8 f k x):=by
 have:=World.ownsRow.stored h k (.bool x)
 unfold BR
 have e:((List.range n).map fun j=>Value.bool (f j)).set k (.bool x)=(List.range n).map fun j=>Value.bool (K8 f k x j):=by
  apply List.ext_getElem?
  intro j
  simp only [List.getElem?_set,List.getElem?_map]
  by_cases hj:j<n
  ·by_cases hk:k=j
   ·subst hk;simp [hj,K8]
   ·simp [hj,hk,K8,Ne.symm hk]
  ·by_cases hk:k=j
   ·subst hk;simp [hj]
   ·simp [hj,hk]
 rw [e] at this
 exact this.1
theorem K0.set {w wv:World} (h:K0 w wv) {b:Nat} (hb:w.heap.size<=b) (o:Nat) (v:Value):K0 w (wv.setCell ⟨b,o,none⟩ v):=by
 refine ⟨h.os,h.tape,h.output,by simpa [World.setCell] using h.size,fun k hk _=>?_⟩
 rw [Below.heap_setCell _ _ _ _ (by show k≠b;omega)]
 exact h.heap hk
theorem mU (f:Nat->Bool) (k:Nat) (x:Bool) (hx:f k=x) (j:Nat):K8 (fun j=>decide (j<k)&&f j) k x j=(decide (j<k+1)&&f j):=by
 unfold K8
 by_cases h:j=k
 ·subst h;simp [hx]
 ·rw [if_neg h]
  have:(j<k)=(j<k+1):=by simp;omega
  simp [this]
theorem Tryz.infoBool:(Tryz.prog.info? 4).map (fun i=>(i.zero,i.size,i.bytes))=some (some (.bool false),1,1):=by kernel_rfl
theorem BR.made {w:World} {g n c:Nat} (h:w.ownsRow 0 4 1 (.slice (some ⟨g,0,none⟩) n c) n (madeCells #[Value.bool false] n).toList):BR w g n c fun _=>false:=by
 unfold BR
 rw [toList_madeCells_one] at h
 rw [show (List.range n).map (fun _=>Value.bool false)=List.replicate n (Value.bool false) from by rw [List.map_const'];simp]
 exact h
theorem tA {w:World} {g1 c1 g2 c2 n:Nat} {fa fb:Nat->Bool} (ha:BR w g1 n c1 fa) (hb:BR w g2 n c2 fb) (hn:n<=300000000):
  Calls Tryz.prog 62 #[.slice (some ⟨g1,0,none⟩) n c1,.slice (some ⟨g2,0,none⟩) n c2] w fun e w'=>∃ g,e = .returned (.slice (some ⟨g,0,none⟩) n n)/\w.heap.size<=g/\BR w' g n n (fun j=>fa j||fb j)/\K0 w w':=by
 obtain ⟨i0,jO,hz0,hz1,hz2⟩:=info_parts Tryz.infoBool
 have HA:=aB (And.intro ha hb)
 have hg1:=ha.lt
 have hg2:=hb.lt
 clear ha hb
 go_enter Tryz.func62,Tryz.ntmps62
 go_wp2_with (at_make;refine wpList_make_full _ rfl _ _ 77 rfl 0 4 i0 (.bool false) 1 Tryz.underlying77 jO hz0 hz1 _ _ _ _ n rfl rfl rfl rfl (by rw [hz2];omega) (by unfold maxLen;omega) (by omega) ?_)
 intro w1 hown hgrow
 have JO:Hid (BR w1 w.heap.size n n fun _=>false):=BR.made hown
 have HK0:Hid (K0 w w1):=Kp.of_grown hgrow (fun _ e=>by cases e)
 clear hown hgrow
 go_wp2_with fail
 go_loopg [6] (n+1) (fun gk iv wv=>∃ k:Nat,iv = .int .i64 k/\k<=n/\n-k<gk/\BR wv w.heap.size n n (fun j=>decide (j<k)&&(fa j||fb j))/\K0 w wv)
 case atStart=>exact ⟨0,rfl,Nat.zero_le _,by omega,BR.congr (aA JO) (by intro j _;simp),aA HK0⟩
 case round=>
  clear JO HK0
  obtain ⟨k,rfl,hk,fW,hR,hK⟩:=hrel
  by_cases hlt:k<n
  ·have ca:=((aA HA).1.k0 hK).cell k hlt
   have cb:=((aA HA).2.k0 hK).cell k hlt
   have co:=hR.cell k hlt
   have fo:=hR.fz k
   have l9:=aB (And.intro hR hK)
   clear hR hK
   cases hx:fa k with
   | true=>
    rw [hx] at ca
    have Hx:=aB hx
    clear hx cb
    go_wp2
    go_roundg (gk-1)
    case measure=>omega
    case rel=>
     exact ⟨k+1,by go_num,by omega,by omega,((aA l9).1.set k true).congr (fun j _=>mU (fun j=>fa j||fb j) k true (by simp [aA Hx]) j),(aA l9).2.set (Nat.le_refl _) _ _⟩
   | false=>
    rw [hx] at ca
    have Hx:=aB hx
    clear hx
    cases hy:fb k with
    | true=>
     rw [hy] at cb
     have Hy:=aB hy
     clear hy
     go_wp2
     go_roundg (gk-1)
     case measure=>omega
     case rel=>exact ⟨k+1,by go_num,by omega,by omega,((aA l9).1.set k true).congr (fun j _=>mU (fun j=>fa j||fb j) k true (by simp [aA Hy]) j),(aA l9).2.set (Nat.le_refl _) _ _⟩
    | false=>
     rw [hy] at cb
     have Hy:=aB hy
     clear hy
     go_wp2
     go_roundg (gk-1)
     case measure=>omega
     case rel=>exact ⟨k+1,by go_num,by omega,by omega,((aA l9).1.set k false).congr (fun j _=>mU (fun j=>fa j||fb j) k false (by simp [aA Hx,aA Hy]) j),(aA l9).2.set (Nat.le_refl _) _ _⟩
  ·obtain rfl:k=n:=by omega
   go_wp2
   go_ret
   exact ⟨w.heap.size,rfl,Nat.le_refl _,hR.congr (by intro j hj;simp [hj]),hK⟩
end Go.Proofs.YtlljggefbngkeaaGreatDoor
