import Derived.Test.YtlljggefbngkeaaGreatDoorU20
import Derived.Test.YtlljggefbngkeaaGreatDoorU14
import Derived.Maps.AppendAt
import Derived.Test.YtlljggefbngkeaaGreatDoorU07
set_option maxRecDepth 100000
set_option maxHeartbeats 3200000
namespace Go.Proofs.YtlljggefbngkeaaGreatDoor
open Go.RowKit
theorem MH.setFree {w:World} {Y:Nat->Prop} {b:Nat} {S:List cA} {st en:Nat} {g cap:Nat} {xs:List Value} (h:MO w Y b S st en (.slice (some ⟨g,0,none⟩) S.length cap) xs) {j:Nat} {q:cA} (hq:S[j]? = some q) (fs:List Nat) (v:Value)
  (hv:w.ownsRow 0 3 1 v fs.length (cG fs)) (hvy:∀ k,v.ownBlock=some k->¬ Y k):
  MH (w.setCell ⟨g,3*j+2,none⟩ v) Y b (S.set j ⟨q.set,q.nx,fs⟩) st en:=by
 have hj:j<S.length:=(List.getElem?_eq_some_iff.1 hq).1
 have hlen:=h.own.1
 have hgb:g≠b:=fun e=>cM h.blk h.own (by decide) (by rw [← e];rfl)
 have far:∀ k,k≠g->(w.setCell ⟨g,3*j+2,none⟩ v).heap[k]? = w.heap[k]? := fun k hk=>Below.heap_setCell _ _ _ _ hk
 have hown:=h.own.stored (3*j+2) v
 refine ⟨.slice (some ⟨g,0,none⟩) S.length cap,xs.set (3*j+2) v,?_⟩
 exact {
  blk:=(far b (Ne.symm hgb)).trans h.blk
  own:=by rw [List.length_set];exact hown.1
  free:=by
   intro i p hp
   by_cases kD:i=j
   ·subst kD
    rw [List.getElem?_set_self hj] at hp
    cases hp
    obtain ⟨v0,⟨n1,h6,h7⟩,h2,h3,h4,h5⟩:=h.free i q hq
    refine ⟨v,⟨n1,h6,?_⟩,?_,?_,aI hv (fun k hk=>far k (fun e=>nF hv h.own (by decide) k hk (by rw [e];rfl))),hvy⟩
    ·rw [List.getElem?_set_ne (by omega)];exact h7
    ·rw [List.getElem?_set_ne (by omega)];exact h2
    ·rw [List.getElem?_set_self (by omega)]
   ·rw [List.getElem?_set_ne (Ne.symm kD)] at hp
    obtain ⟨v0,⟨n1,h6,h7⟩,h2,h3,h4,h5⟩:=h.free i p hp
    refine ⟨v0,⟨n1,h6,?_⟩,?_,?_,aI h4 (fun k hk=>far k (fun e=>nF h4 h.own (by decide) k hk (by rw [e];rfl))),h5⟩
    ·rw [List.getElem?_set_ne (by omega)];exact h7
    ·rw [List.getElem?_set_ne (by omega)];exact h2
    ·rw [List.getElem?_set_ne (by omega)];exact h3
  nb:=h.nb
  np:=h.np}
theorem NG {w0:World} {b:Nat} (c:Int) (hc:c=42\/c=43) (t:PT) (ih:jT w0 b t):jT w0 b (.rep c t):=by
 intro w Y S to st en p hT vP hB hY hM hlen
 rw [TR] at hT
 obtain ⟨_,v,gt,hp,hv,hTt⟩:=hT
 rw [aP] at hlen
 obtain ⟨vb,cap,rfl,_,dB⟩:=hv.1.form (by simp)
 have cv:=hv.1.cellAt 0 (by simp)
 simp [bD] at cv
 have eI:=nT hB hp
 have hpl:=aD eI
 have aC9:vb<w.heap.size:=Nat.lt_of_lt_of_le dB hB.size
 have cv1:w.cell? ⟨vb,0,none⟩=some (.pointer (some ⟨gt,0,none⟩)):=by rw [World.cell?_of_block (w:=w0) (w':=w) (a:=⟨vb,0,none⟩) (hB.block vb dB)];exact cv
 have k0:∀ o o',((w.alloc o).alloc o').cell? ⟨p,0,none⟩=some (.int .i64 (kV c)):=fun o o'=>by rw [World.cell?_alloc_past _ _ _ (by simp;omega),World.cell?_alloc_past _ _ _ hpl,aC eI 0];rfl
 have k2:∀ o o',((w.alloc o).alloc o').cell? ⟨p,2,none⟩=some (.slice (some ⟨vb,0,none⟩) 1 cap):=fun o o'=>by rw [World.cell?_alloc_past _ _ _ (by simp;omega),World.cell?_alloc_past _ _ _ hpl,aC eI 2];rfl
 have k3:∀ o o',((w.alloc o).alloc o').cell? ⟨vb,0,none⟩=some (.pointer (some ⟨gt,0,none⟩)):=fun o o'=>by rw [World.cell?_alloc_past _ _ _ (by simp;omega),World.cell?_alloc_past _ _ _ aC9];exact cv1
 have hpY:Y p:=vP p (aD hp)
 have hvY:Y vb:=vP vb dB
 have hb1:((w.alloc (.cells #[.pointer (some ⟨b,0,none⟩)] 120)).alloc (.cells #[.int .i64 (to:Int)] 3)).heap[w.heap.size]? = some (.cells #[.pointer (some ⟨b,0,none⟩)] 120 (0,0)):=heap_alloc_old _ (heap_alloc_new w _)
 have hb2:((w.alloc (.cells #[.pointer (some ⟨b,0,none⟩)] 120)).alloc (.cells #[.int .i64 (to:Int)] 3)).heap[w.heap.size+1]? = some (.cells #[.int .i64 (to:Int)] 3 (0,0)):=bC w _ _
 have pS:MH ((w.alloc (.cells #[.pointer (some ⟨b,0,none⟩)] 120)).alloc (.cells #[.int .i64 (to:Int)] 3)) (YL Y w (.slice none 0 0)) b S st en:=by
  refine MH.reY ((hM.far.alloc _).alloc _) (fun k _ hz=>?_)
  rcases hz with hz | hz | hz | hz
  ·exact .inl hz
  ·exact .inr (by omega)
  ·exact .inr (by omega)
  ·cases hz
 have mN:Below w0.heap.size w0 ((w.alloc (.cells #[.pointer (some ⟨b,0,none⟩)] 120)).alloc (.cells #[.int .i64 (to:Int)] 3)):=hB.trans (((Below.refl _ w).alloc hB.size _).alloc (by have:=hB.size;simp;omega) _)
 have sO:∀ k,YL Y w (.slice none 0 0) k->k<((w.alloc (.cells #[.pointer (some ⟨b,0,none⟩)] 120)).alloc (.cells #[.int .i64 (to:Int)] 3)).heap.size:=by
  intro k hk
  rcases hk with hk | hk | hk | hk
  ·have:=hY k hk;simp;omega
  ·simp;omega
  ·simp;omega
  ·cases hk
 have HB:=aB (And.intro hb1 (And.intro hb2 (And.intro sO (And.intro mN (And.intro ih (And.intro hTt vP))))))
 have HA:=aB (JL ⟨[],0,[]⟩ 0 (.slice none 0 0) iX pS (by omega) (World.ownsRow_nil _ _ _ _) (fun k hk=>by cases hk) sO)
 have hML:=fL t (S++[⟨[],0,[]⟩]) S.length
 have aI6:(S++[(⟨[],0,[]⟩:cA)]).length=S.length+1:=by simp
 have HK0:Hid (Kp Y w ((w.alloc (.cells #[.pointer (some ⟨b,0,none⟩)] 120)).alloc (.cells #[.int .i64 (to:Int)] 3))):=(Kp.alloc Y w _).trans (Kp.alloc Y _ _)
 have s1:((w.alloc (.cells #[.pointer (some ⟨b,0,none⟩)] 120)).alloc (.cells #[.int .i64 (to:Int)] 3)).cell? ⟨w.heap.size,0,none⟩=some (.pointer (some ⟨b,0,none⟩)):=by rw [aC hb1 0];rfl
 have s2:((w.alloc (.cells #[.pointer (some ⟨b,0,none⟩)] 120)).alloc (.cells #[.int .i64 (to:Int)] 3)).cell? ⟨w.heap.size+1,0,none⟩=some (.int .i64 (to:Int)):=by rw [aC hb2 0];rfl
 have HS:Hid (∀ w3,Kp (YL Y w (.slice none 0 0)) ((w.alloc (.cells #[.pointer (some ⟨b,0,none⟩)] 120)).alloc (.cells #[.int .i64 (to:Int)] 3)) w3->w3.cell? ⟨w.heap.size,0,none⟩=some (.pointer (some ⟨b,0,none⟩))/\w3.cell? ⟨w.heap.size+1,0,none⟩=some (.int .i64 (to:Int))/\w3.cell? ⟨p,2,none⟩=some (.slice (some ⟨vb,0,none⟩) 1 cap)/\w3.cell? ⟨vb,0,none⟩=some (.pointer (some ⟨gt,0,none⟩))/\w3.cell? ⟨p,0,none⟩=some (.int .i64 (kV c))):=by
  intro w3 hK
  refine ⟨?_,?_,?_,?_,?_⟩
  ·rw [World.cell?_of_block (a:=⟨w.heap.size,0,none⟩) (hK.block w.heap.size (by simp;omega) (.inr (.inl rfl)))];exact s1
  ·rw [World.cell?_of_block (a:=⟨w.heap.size+1,0,none⟩) (hK.block (w.heap.size+1) (by simp) (.inr (.inr (.inl rfl))))];exact s2
  ·rw [World.cell?_of_block (a:=⟨p,2,none⟩) (hK.block p (by simp;omega) (.inl hpY))];exact k2 _ _
  ·rw [World.cell?_of_block (a:=⟨vb,0,none⟩) (hK.block vb (by simp;omega) (.inl hvY))];exact k3 _ _
  ·rw [World.cell?_of_block (a:=⟨p,0,none⟩) (hK.block p (by simp;omega) (.inl hpY))];exact k0 _ _
 have q0:(kV c==0)=false/\(kV c==1)=false/\(kV c==2)=false/\(kV c==5)=false/\(kV c==4)=decide (c=43):=by
  rcases hc with rfl | rfl <;> decide
 obtain ⟨q0,q1,q2,q5,q4⟩:=q0
 rw [bJ,if_pos hc]
 have Hq:=aB q4
 have Hc43:=aB hc
 clear hp eI hM hB hv hTt ih hb1 hb2 pS mN sO cv cv1 hc q4
 generalize kV c=kd at *
 go_enter Tryz.func141,Tryz.ntmps141
 go_wp2_with fail
 refine (aA HA).mono ?_
 rintro e w2 ⟨rfl,mE,hK2⟩
 obtain ⟨hb1,hb2,sO,mN,ih,hTt,vP⟩:=aA HB
 obtain ⟨t1,t2,t3,t4,t5⟩:=aA HS w2 hK2
 have aCV:∀ w3,Kp (YL Y w (.slice none 0 0)) ((w.alloc (.cells #[.pointer (some ⟨b,0,none⟩)] 120)).alloc (.cells #[.int .i64 (to:Int)] 3)) w3->Below w0.heap.size w0 w3:=fun w3 hK=>⟨hK.os.trans mN.os,hK.tape.trans mN.tape,hK.output.trans mN.output,Nat.le_trans mN.size hK.size,fun k hk=>(hK.block k (Nat.lt_of_lt_of_le hk mN.size) (.inl (vP k hk))).trans (mN.block k hk)⟩
 have HC:=aB (ih w2.drew (YL Y w (.slice none 0 0)) (S++[⟨[],0,[]⟩]) S.length st en gt hTt (fun j hj => .inl (vP j hj)) (aCV w2 hK2).drew (fun k hk=>Nat.lt_of_lt_of_le (sO k hk) hK2.size) mE.drew (by omega))
 have M8:=aB hK2
 have HYl:=aB (And.intro sO aCV)
 clear mE hK2 hb1 hb2 sO mN ih hTt vP aCV HB HA s1 s2
 go_wp2_with fail
 go_region_held3 (fun w'=>w'.cell? ⟨w.heap.size,0,none⟩=some (.pointer (some ⟨b,0,none⟩))/\w'.cell? ⟨p,2,none⟩=some (.slice (some ⟨vb,0,none⟩) 1 cap)/\w'.cell? ⟨vb,0,none⟩=some (.pointer (some ⟨gt,0,none⟩))) (go_keep) (first
  | (go_at_call 141;refine (aA HC).mono ?_;rintro e w3 ⟨rfl,j9,hK3⟩;obtain ⟨u1,u2,u3,u4,u5⟩:=aA HS w3 (((aA M8).trans (Kp.drew _ w2)).trans hK3)))
 all_goals
  obtain ⟨pv,xs,X5⟩:=j9
  have hx:=cY t (S++[⟨[],0,[]⟩]) S.length
  have aIO:S.length<(bJ t (S++[⟨[],0,[]⟩]) S.length).1.length:=by have:=hx.1;omega
  have b8:(bJ t (S++[⟨[],0,[]⟩]) S.length).1[S.length]? = some ⟨[],0,[]⟩:=by rw [hx.2 S.length (by omega)];simp
  obtain ⟨g,cap3,rfl,_,eC⟩:=X5.own.form (by omega)
  have e0:w3.cell? ⟨b,0,none⟩=some (.slice (some ⟨g,0,none⟩) (bJ t (S++[⟨[],0,[]⟩]) S.length).1.length cap3):=by rw [aC X5.blk 0];rfl
  have rI:=aD X5.blk
  have hfz:=X5.own.frozenAt (3*S.length+2)
  have hgc:∃ x,w3.cell? ⟨g,3*S.length+2,none⟩=some x:=by
   have h1:=X5.own.cellAt (3*S.length+2) (by omega)
   have h2:=X5.own.1
   rw [h1]
   exact ⟨_,List.getElem?_eq_getElem (by omega)⟩
  obtain ⟨x0,hgc⟩:=hgc
  have Q9:=((aA M8).trans (Kp.drew _ w2)).trans hK3
  have hz3:∀ k,YL Y w (.slice none 0 0) k->k<w3.heap.size:=fun k hk=>Nat.lt_of_lt_of_le ((aA HYl).1 k hk) Q9.size
  have kQ:¬ YL Y w (.slice none 0 0) g:=X5.np g rfl
  have n1:¬ w.heap.size=g:=fun e=>kQ (.inr (.inl e.symm))
  have n2:¬ w.heap.size+1=g:=fun e=>kQ (.inr (.inr (.inl e.symm)))
  have n3:¬ b=g:=fun e=>cM X5.blk X5.own (by decide) (by rw [e];rfl)
  have n4:¬ g=w3.heap.size:=by omega
  have n5:¬ p=g:=fun e=>kQ (e ▸ .inl hpY)
  have n6:¬ w3.heap.size=g:=by omega
  have a1:=fun o=>(World.cell?_alloc_past (w:=w3) o w.heap.size 0 (hz3 _ (.inr (.inl rfl)))).trans u1
  have a2:=fun o=>(World.cell?_alloc_past (w:=w3) o (w.heap.size+1) 0 (hz3 _ (.inr (.inr (.inl rfl))))).trans u2
  have a3:=fun o=>(World.cell?_alloc_past (w:=w3) o b 0 rI).trans e0
  have a4:=fun o=>(World.cell?_alloc_past (w:=w3) o g (3*S.length+2) eC).trans hgc
  have f4:=fun o=>(World.frozen?_alloc_past (w:=w3) o g (3*S.length+2) eC).trans hfz
  have a5:=fun o=>(World.cell?_alloc_past (w:=w3) o p 0 (hz3 _ (.inl hpY))).trans u5
  rw [show 3*S.length+2=S.length*3+2 by omega] at a4 f4 hgc hfz
  have cs:∀ (v:Value) (o:Obj) (k i:Nat) (y:Value),k<w3.heap.size->k≠g->w3.cell? ⟨k,i,none⟩=some y->((w3.setCell ⟨g,S.length*3+2,none⟩ v).alloc o).cell? ⟨k,i,none⟩=some y:=fun v o k i y hk hne hy=>by
   rw [World.cell?_alloc_past _ _ _ (by simpa [World.setCell] using hk),World.cell?_of_block (w:=w3) (a:=⟨k,i,none⟩) (Below.heap_setCell w3 ⟨g,S.length*3+2,none⟩ v k hne)]
   exact hy
  have c1:=fun v o=>cs v o _ _ _ (hz3 _ (.inr (.inl rfl))) n1 u1
  have c2:=fun v o=>cs v o _ _ _ (hz3 _ (.inr (.inr (.inl rfl)))) n2 u2
  have c3:=fun v o=>cs v o _ _ _ rI n3 e0
  have c5:=fun v o=>cs v o _ _ _ (hz3 _ (.inl hpY)) n5 u5
  clear cs
  have hdi:(S.length:Int)<((bJ t (S++[⟨[],0,[]⟩]) S.length).1.length:Int):=by omega
  have H3:=aB (And.intro X5 (And.intro Q9 (And.intro hz3 (And.intro b8 kQ))))
  clear X5 Q9 hz3 b8 kQ hK3 HC HS hx
  generalize fX:(bJ t (S++[⟨[],0,[]⟩]) S.length).1=S3 at *
  generalize hf3:(bJ t (S++[⟨[],0,[]⟩]) S.length).2=f3 at *
  go_wp2_with fail
  go_region_held3 (fun w'=>w'.cell? ⟨w.heap.size,0,none⟩=some (.pointer (some ⟨b,0,none⟩))/\w'.cell? ⟨w.heap.size+1,0,none⟩=some (.int .i64 (to:Int))/\w'.cell? ⟨b,0,none⟩=some (.slice (some ⟨g,0,none⟩) S3.length cap3)) (go_keep) (first | fail)
  all_goals
   obtain ⟨X5,Q9,hz3,b8,kQ⟩:=aA H3
   have hrow:=World.ownsRow_lit (base:=0) (e:=3) (size:=1) w3 #[.int .i64 (to:Int),.int .i64 (f3:Int)] 2 (by omega) (by unfold maxLen;omega) rfl
   have aFT:MO (w3.alloc (.cells #[.int .i64 (to:Int),.int .i64 (f3:Int)] 3)) (YL Y w (.slice none 0 0)) b S3 st en (.slice (some ⟨g,0,none⟩) S3.length cap3) xs:=by
    have key:∀ k,k<w3.heap.size->(w3.alloc (.cells #[.int .i64 (to:Int),.int .i64 (f3:Int)] 3)).heap[k]? = w3.heap[k]? := fun k hk=>Below.heap_alloc _ _ _ hk
    exact {
     blk:=(key b rI).trans X5.blk
     own:=aI X5.own fun k hk=>key k (aJ X5.own k hk)
     free:=fun j q hq=>by
      obtain ⟨v,h1,h2,h3,h4,h5⟩:=X5.free j q hq
      exact ⟨v,h1,h2,h3,aI h4 fun k hk=>key k (aJ h4 k hk),h5⟩
     nb:=X5.nb
     np:=X5.np}
   have hMF:=MH.setFree aFT b8 [to,f3] (.slice (some ⟨w3.heap.size,0,none⟩) 2 2) hrow (fun k hk hy=>by simp [Value.ownBlock] at hk;have:=hz3 k hy;omega)
   have hcm:(w3.alloc (.cells #[.int .i64 (to:Int),.int .i64 (f3:Int)] 3)).setCell ⟨g,3*S.length+2,none⟩ (.slice (some ⟨w3.heap.size,0,none⟩) 2 2)=(w3.setCell ⟨g,S.length*3+2,none⟩ (.slice (some ⟨w3.heap.size,0,none⟩) 2 2)).alloc (.cells #[.int .i64 (to:Int),.int .i64 (f3:Int)] 3):=by
    rw [show 3*S.length+2=S.length*3+2 by omega]
    exact World.setCell_alloc_past _ _ _ _ eC
   rw [hcm] at hMF
   have hKf:Kp Y w ((w3.setCell ⟨g,S.length*3+2,none⟩ (.slice (some ⟨w3.heap.size,0,none⟩) 2 2)).alloc (.cells #[.int .i64 (to:Int),.int .i64 (f3:Int)] 3)).drew:=
    (((aA HK0).trans (Kp.mono Q9 (fun k _ hk => .inl hk))).trans (Kp.set w3 g _ _ (fun hy=>kQ (.inl hy)))).trans ((Kp.alloc Y _ _).trans (Kp.drew Y _))
   have HF:=aB (And.intro (hMF.reY (fun k _ hk => .inl hk)).drew hKf)
   clear X5 Q9 hz3 b8 kQ hrow aFT hMF hcm hKf H3 a1 a2 a3 a4 f4 a5
   rcases aA Hc43 with hc | hc
   ·have q4:(kd==4)=false:=by rw [aA Hq,hc];decide
    go_wp2
    go_ret
    exact ⟨rfl,(aA HF).1,(aA HF).2⟩
   ·have q4:(kd==4)=true:=by rw [aA Hq,hc];decide
    go_wp2
    go_ret
    exact ⟨rfl,(aA HF).1,(aA HF).2⟩
end Go.Proofs.YtlljggefbngkeaaGreatDoor
namespace Go.Proofs.YtlljggefbngkeaaGreatDoor
open Go.RowKit Go.Shelf
attribute [local go_sem] Oper.semAt_some
def aD3 (x:Nat×Nat):Array Value := #[.int .i64 (x.1:Int),.pointer (some ⟨x.2,0,none⟩)]
theorem aB1 (n:Nat) (ao:Option Addr) (m cp:Nat) (w:World):CallsIn Fence.wide n Tryz.prog 159 #[.slice ao m cp] w fun e w' =>
  e = .returned (.func (.func 172) #[] #[.pointer (some ⟨w.heap.size,0,none⟩)])/\w'=w.alloc (.cells #[.slice ao m cp] 162):=by
 refine callsIn_of_wp Tryz.func159 rfl trivial ?_ rfl
 simp only [Tryz.ntmps159,List.size_toArray,List.length_cons,List.length_nil,Nat.reduceAdd,Nat.reduceSub,Array.replicate_succ,Array.replicate_zero,List.push_toArray,List.append_toArray,List.nil_append,List.cons_append]
 gi_wp2
 go_ret
 exact ⟨rfl,rfl⟩
theorem aDD {w:World} {n Bs:Nat} {v:Value} {gs:List Nat} {fp:World->Nat->Prop} (hfs:∀ A,¬ fp A Bs) (XL:∀ A k,v.ownBlock=some k->¬ fp A k) (hb:w.heap[Bs]? = some (.cells #[v] 162 (0,0))) (hv:w.ownsRow 0 116 1 v gs.length (bD gs)):
  JD Fence.wide n Tryz.prog 172 #[.pointer (some ⟨Bs,0,none⟩)] aD3 fp false (fun pre x=>pre.length<gs.length/\x.1=gs.length-1-pre.length/\gs[gs.length-1-pre.length]? = some x.2) (fun xs=>xs.length=gs.length) (fun _=>True) w:=by
 intro l J Jx W hW hJs pC _ hY h0
 have hmx:=qF hv
 obtain ⟨ao,cp,rfl⟩:=aG hv
 have hbW:=(hW.block Bs (aD hb) (by simp)).trans hb
 have hvW:=aI hv (fun k e=>hW.block k (aJ hv k e) (by simp))
 have c0:=aC hbW 0
 simp at c0
 have H0:=aB (And.intro hbW (And.intro hvW h0))
 have HY:=aB hY
 clear hJs pC hY h0 hW hb hv hbW hvW
 refine callsIn_of_wp Tryz.func172 rfl trivial ?_ rfl
 simp only [Tryz.ntmps172,List.size_toArray,List.length_cons,List.length_nil,Nat.reduceAdd,Nat.reduceSub,Array.replicate_succ,Array.replicate_zero,List.push_toArray,List.append_toArray,List.nil_append,List.cons_append]
 gi_wp2_with fail
 gi_loopw [3] (fun iv wr=>∃ pre:List (Nat×Nat),iv = .int .i64 ((gs.length:Int)-1-(pre.length:Int))/\pre.length<=gs.length/\wr.heap[Bs]? = some (.cells #[.slice ao gs.length cp] 162 (0,0))/\wr.ownsRow 0 116 1 (.slice ao gs.length cp) gs.length (bD gs)/\J pre wr) (fun iv _=>(Lib.intOf iv+1).toNat)
 case atStart=>exact ⟨[],by simp,Nat.zero_le _,(aA H0).1,(aA H0).2.1,(aA H0).2.2⟩
 case round=>
  obtain ⟨pre,rfl,hk,hbr,TG,hJr⟩:=hrel
  have d0:=aC hbr 0
  simp at d0
  have HI:=aB (And.intro hbr (And.intro TG hJr))
  clear hbr TG hJr c0
  by_cases hlt:pre.length<gs.length
  ·have hd:(0:Int)<=(gs.length:Int)-1-(pre.length:Int):=by omega
   obtain ⟨hbr,TG,hJr⟩:=aA HI
   obtain ⟨vb,cap,fM,_,dB⟩:=TG.form (by omega)
   injection fM with hao _ nY
   subst hao
   subst nY
   obtain ⟨gx,hgx⟩:∃ gx,gs[gs.length-1-pre.length]? = some gx:=⟨_,List.getElem?_eq_getElem (by omega)⟩
   have ck:wr.cell? ⟨vb,gs.length-1-pre.length,none⟩=some (.pointer (some ⟨gx,0,none⟩)):=by
    have h1:=TG.cellAt (gs.length-1-pre.length) (by omega)
    rw [h1]
    simp [bD,hgx]
   have GU:(gs.length:Int)-1-(pre.length:Int)<(gs.length:Int):=by omega
   obtain ⟨fn,tmps,assign,body,hy,j7⟩:=aA HY pre (gs.length-1-pre.length,gx) wr hJr ⟨hlt,rfl,hgx⟩
   dsimp only [aD3] at hy
   rw [show (((gs.length-1-pre.length:Nat)):Int)=(gs.length:Int)-1-(pre.length:Int) by omega] at hy
   have htn:((gs.length:Int)-1-(pre.length:Int)).toNat=gs.length-1-pre.length:=by omega
   have HRd:=aB j7
   clear hbr TG hJr j7
   gi_wp2_with fail
   refine ⟨cF,?_⟩
   refine (aA HRd).mono ?_
   rintro e W3 (⟨rfl,hJ3,hk3⟩ | ⟨rfl,hx3⟩)
   ·gi_wp2_with fail
    go_roundw
    case rel=>
     obtain ⟨hbr,TG,_⟩:=aA HI
     refine ⟨pre++[(gs.length-1-pre.length,gx)],by simp;omega,by simp;omega,(hk3.block _ (aD hbr) (hfs _)).trans hbr,aI TG (fun k e=>hk3.block k (aJ TG k e) (XL _ k e)),hJ3⟩
    case measure=>simp [Lib.intOf];omega
   ·gi_wp2
    refine bodyPost_ret (results_none rfl _ _ _) rfl ?_
    exact ⟨⟨_,rfl⟩,.inr ⟨_,trivial,hx3⟩⟩
  ·have hd:¬ (0:Int)<=(gs.length:Int)-1-(pre.length:Int):=by omega
   have XP:decide ((0:Int)<=(gs.length:Int)-1-(pre.length:Int))=false:=by simp;omega
   gi_wp2
   go_end0
   exact ⟨⟨_,rfl⟩,.inl ⟨pre,by omega,(aA HI).2.2⟩⟩
def YR (Y:Nat->Prop) (w:World) (k:Nat):Prop:=Y k\/k=w.heap.size\/k=w.heap.size+1\/k=w.heap.size+2\/k=w.heap.size+3\/k=w.heap.size+4
def fpR (Y:Nat->Prop) (w:World) (_:World) (k:Nat):Prop:=k=w.heap.size+1\/¬ YR Y w k
def aHX (w:World) (Y:Nat->Prop) (b:Nat) (S:List cA) (to st en:Nat) (l:List PT) (pre:List (Nat×Nat)) (W:World):Prop:=
 pre.length<=l.length/\MH W (YR Y w) b (fY (l.drop (l.length-pre.length)) S to).1 st en/\W.heap[w.heap.size]? = some (.cells #[.pointer (some ⟨b,0,none⟩)] 120 (0,0))/\
  W.heap[w.heap.size+1]? = some (.cells #[.int .i64 ((fY (l.drop (l.length-pre.length)) S to).2:Int)] 3 (0,0))/\Kp Y w W
theorem SF {w0:World} {b:Nat} (l:List PT) (ih:∀ t,t∈l->jT w0 b t):jT w0 b (.seq l):=by
 intro w Y S to st en p hT vP hB hY hM hlen
 rw [TR] at hT
 obtain ⟨_,v,gs,hp,hv,oO⟩:=hT
 rw [aP] at hlen
 have Hgs:=aB oO.len
 obtain ⟨ao,cp,rfl⟩:=aG hv.1
 have eI:=nT hB hp
 have hpl:=aD eI
 have k0:∀ o o',((w.alloc o).alloc o').cell? ⟨p,0,none⟩=some (.int .i64 1):=fun o o'=>by rw [World.cell?_alloc_past _ _ _ (by simp;omega),World.cell?_alloc_past _ _ _ hpl,aC eI 0];rfl
 have k2:∀ o o',((w.alloc o).alloc o').cell? ⟨p,2,none⟩=some (.slice ao gs.length cp):=fun o o'=>by rw [World.cell?_alloc_past _ _ _ (by simp;omega),World.cell?_alloc_past _ _ _ hpl,aC eI 2];rfl
 rw [bJ]
 refine (callsIn_wide (n:=3)).1 ?_
 refine callsIn_of_wp_marks Tryz.func141 rfl trivial ?_ rfl
 simp only [Tryz.ntmps141,List.size_toArray,List.length_cons,List.length_nil,Nat.reduceAdd,Nat.reduceSub,Array.replicate_succ,Array.replicate_zero,List.push_toArray,List.append_toArray,List.nil_append,List.cons_append]
 gi_wp2_with fail
 refine ⟨trivial,(aB1 2 ao gs.length cp _).mono ?_⟩
 rintro e w' ⟨rfl,rfl⟩
 gi_wp2_with fail
 have hs3:(((w.alloc (.cells #[.pointer (some ⟨b,0,none⟩)] 120)).alloc (.cells #[.int .i64 (to:Int)] 3)).alloc (.cells #[.slice ao gs.length cp] 162)).heap.size=w.heap.size+3:=by simp
 have hb1:(((w.alloc (.cells #[.pointer (some ⟨b,0,none⟩)] 120)).alloc (.cells #[.int .i64 (to:Int)] 3)).alloc (.cells #[.slice ao gs.length cp] 162)).heap[w.heap.size]? = some (.cells #[.pointer (some ⟨b,0,none⟩)] 120 (0,0)):=heap_alloc_old _ (heap_alloc_old _ (heap_alloc_new w _))
 have hb2:(((w.alloc (.cells #[.pointer (some ⟨b,0,none⟩)] 120)).alloc (.cells #[.int .i64 (to:Int)] 3)).alloc (.cells #[.slice ao gs.length cp] 162)).heap[w.heap.size+1]? = some (.cells #[.int .i64 (to:Int)] 3 (0,0)):=heap_alloc_old _ (bC w _ _)
 have hb3:(((w.alloc (.cells #[.pointer (some ⟨b,0,none⟩)] 120)).alloc (.cells #[.int .i64 (to:Int)] 3)).alloc (.cells #[.slice ao gs.length cp] 162)).heap[w.heap.size+2]? = some (.cells #[.slice ao gs.length cp] 162 (0,0)):=tY w _ _ _
 have j9:MH (((w.alloc (.cells #[.pointer (some ⟨b,0,none⟩)] 120)).alloc (.cells #[.int .i64 (to:Int)] 3)).alloc (.cells #[.slice ao gs.length cp] 162)) (YR Y w) b S st en:=by
  refine MH.reY (((hM.far.alloc _).alloc _).alloc _) (fun k _ hz=>?_)
  rcases hz with hz | hz
  ·exact .inl hz
  ·exact .inr (by omega)
 have hK3:Kp Y w (((w.alloc (.cells #[.pointer (some ⟨b,0,none⟩)] 120)).alloc (.cells #[.int .i64 (to:Int)] 3)).alloc (.cells #[.slice ao gs.length cp] 162)):=((Kp.alloc Y w _).trans (Kp.alloc Y _ _)).trans (Kp.alloc Y _ _)
 have hv3:(((w.alloc (.cells #[.pointer (some ⟨b,0,none⟩)] 120)).alloc (.cells #[.int .i64 (to:Int)] 3)).alloc (.cells #[.slice ao gs.length cp] 162)).ownsRow 0 116 1 (.slice ao gs.length cp) gs.length (bD gs):=(((aI hv.1 (fun k e=>hB.block k (aJ hv.1 k e))).alloc _).alloc _).alloc _
 generalize (((w.alloc (.cells #[.pointer (some ⟨b,0,none⟩)] 120)).alloc (.cells #[.int .i64 (to:Int)] 3)).alloc (.cells #[.slice ao gs.length cp] 162))=w3 at *
 have UB:l.drop (l.length-0)=[]:=by simp
 refine lB (α:=Nat×Nat) rfl (by decide) (gf:=172) (lb := #[.pointer (some ⟨w.heap.size+2,0,none⟩)]) rfl trivial (enters_of Tryz.func172 (by kernel_rfl) rfl)
  (aDD (fp:=fpR Y w) (fun A h=>h.elim (fun e=>by omega) (fun h=>h (.inr (.inr (.inr (.inl rfl)))))) (fun A k e h=>h.elim (fun e'=>by have:=Nat.lt_of_lt_of_le (aJ hv.1 k e) hB.size;omega) (fun h=>h (.inl (vP k (aJ hv.1 k e))))) hb3 hv3) (fun _=>rfl)
  (aHX w Y b S to st en l) (fun _ _=>False)
  (fun pre A A' h hz=>⟨?stab,fun _=>Iff.rfl⟩) (fun _ _ _ h=>h.elim) (fun _ _ _ h=>h.elim)
  (fun pre A k _ hk=>?fl) (fun fZ=>by cases fZ)
  ⟨Nat.zero_le _,by rw [List.length_nil,UB,fY];exact j9,hb1,by rw [List.length_nil,UB,fY];exact hb2,hK3⟩
  ?a1 ?assign ?body ?done ?stop
 case stab=>
  obtain ⟨h1,h2,h3,h4,h5⟩:=h
  refine ⟨h1,MH.kept h2 (fun k hk hn=>hz.block k hk (.inr (.inr hn))),(hz.block _ (aD h3) (.inl (by omega))).trans h3,(hz.block _ (aD h4) (.inl (by omega))).trans h4,h5.trans ⟨hz.os,hz.tape,hz.output,hz.size,fun k hk hy=>hz.block k hk (.inl (by have:=hY k hy;omega))⟩⟩
 case fl=>
  rcases hk with hk | hk
  ·exact .inl (by omega)
  ·have e1:k≠w.heap.size+3:=fun e=>hk (.inr (.inr (.inr (.inr (.inl e)))))
   have e2:k≠w.heap.size+4:=fun e=>hk (.inr (.inr (.inr (.inr (.inr e)))))
   omega
 case assign=>
  intro l' x W K hK
  simp only [aD3]
  gi_wp2
  exact hK
 case body=>
  rintro l' pre ⟨ix,gx⟩ W ⟨h1,h2,h3,h4,h5⟩ ⟨eI,eG,oT⟩ OD
  simp only at eI eG oT
  have rA:=aA Hgs
  obtain ⟨t,g',CJ,ht2,ht3⟩:=dN.at oO (gs.length-1-pre.length) (by omega)
  rw [oT] at ht2
  cases ht2
  have q7:l.length-(pre.length+1)=gs.length-1-pre.length:=by omega
  have xK:l.drop (l.length-(pre.length+1))=t::l.drop (l.length-pre.length):=by
   rw [q7,show l.length-pre.length=(gs.length-1-pre.length)+1 by omega]
   have hlt:gs.length-1-pre.length<l.length:=by omega
   rw [List.drop_eq_getElem_cons hlt]
   rw [List.getElem?_eq_getElem hlt] at CJ
   cases CJ
   rfl
  have e1:=aC h3 0
  have e2:=aC h4 0
  have f2:=aM h4 0
  simp at e1 e2
  have nQ:Below w0.heap.size w0 W:=⟨h5.os.trans hB.os,h5.tape.trans hB.tape,h5.output.trans hB.output,Nat.le_trans hB.size h5.size,fun k hk=>(h5.block k (Nat.lt_of_lt_of_le hk hB.size) (vP k hk)).trans (hB.block k hk)⟩
  have hYW:∀ k,YR Y w k->k<W.heap.size:=by
   intro k hk
   rcases hk with hk | hk | hk | hk | hk | hk
   ·have:=hY k hk;omega
   all_goals omega
  have hsz:=B7 (l.drop (l.length-pre.length)) S to
  have hst:aR (l.drop (l.length-pre.length))+aP t<=aR l:=by
   have h9:aR (l.drop (l.length-(pre.length+1)))<=aR l:=wQ l _
   rw [xK,aR] at h9
   omega
  have HC:=aB (ih t (List.mem_of_getElem? CJ) W (YR Y w) (fY (l.drop (l.length-pre.length)) S to).1 (fY (l.drop (l.length-pre.length)) S to).2 st en gx ht3 (fun k hk => .inl (vP k hk)) nQ hYW h2 (by omega))
  have HI:=aB (And.intro h3 (And.intro h4 (And.intro h5 (And.intro xK (And.intro hYW h1)))))
  clear h2 h3 h4 h5 nQ hYW xK CJ ht3 oT
  gi_wp2_with fail
  refine ⟨trivial,(CallsIn.inRound l' (callsIn_wide.2 (aA HC))).mono ?_⟩
  rintro e W3 ⟨rfl,aFU,vT⟩
  have rB:=(vT.block _ (aD (aA HI).2.1) (.inr (.inr (.inl rfl)))).trans (aA HI).2.1
  have e5:=aC rB 0
  have f5:=aM rB 0
  simp at e5
  have H3:=aB (And.intro aFU (And.intro vT rB))
  clear aFU vT rB HC
  gi_wp2_with fail
  obtain ⟨h3,h4,h5,xK,hYW,h1⟩:=aA HI
  obtain ⟨hM5,gL,rB⟩:=aA H3
  have far:∀ k x,k≠w.heap.size+1->(W3.setCell ⟨w.heap.size+1,0,none⟩ x).heap[k]? = W3.heap[k]? := fun k x hk=>Below.heap_setCell _ _ _ _ hk
  have aGR:∀ x,(W3.setCell ⟨w.heap.size+1,0,none⟩ x).heap.size=W3.heap.size:=fun x=>by simp [World.setCell]
  refine ⟨⟨gL.os,gL.tape,gL.output,by rw [aGR];exact gL.size,fun k hk hn=>?_,fun k hk => .inl hk⟩,by simp;omega,?_,?_,?_,?_⟩
  ·have hn1:k≠w.heap.size+1:=fun e=>hn (.inl e)
   have PN:YR Y w k:=Classical.byContradiction fun h=>hn (.inr h)
   exact (far k _ hn1).trans (gL.block k hk PN)
  ·rw [List.length_append,List.length_singleton,xK,fY]
   exact MH.kept hM5 (fun k hk hn=>far k _ (fun e=>hn (.inr (.inr (.inl e)))))
  ·exact (far _ _ (by omega)).trans ((gL.block _ (aD h3) (.inr (.inl rfl))).trans h3)
  ·have:=aK rB 0 (.int .i64 ((bJ t (fY (l.drop (l.length-pre.length)) S to).1 (fY (l.drop (l.length-pre.length)) S to).2).2:Int))
   rw [List.length_append,List.length_singleton,xK,fY]
   simpa using this
  ·refine (h5.trans (Kp.mono gL (fun k _ hk => .inl hk))).trans (Kp.set W3 (w.heap.size+1) 0 _ (fun hy=>by have:=hY _ hy;omega))
 case done=>
  rintro D xs W hD hS ⟨h1,h2,h3,h4,h5⟩ hK
  have rA:=aA Hgs
  have xK:l.drop (l.length-xs.length)=l:=by rw [show l.length-xs.length=0 by omega];rfl
  rw [xK] at h2 h4
  have e4:=aC h4 0
  simp at e4
  have HI:=aB (And.intro h2 (And.intro h5 hK))
  clear h1 h2 h3 h4 h5 xK
  gi_wp2_with fail
  refine ⟨by simp,.inl ⟨_,_,rfl,run_takeDeferred hK,?_⟩⟩
  refine ⟨_,results_tmp rfl _ _ _,rfl,?_,?_⟩
  ·exact MH.reY (MH.kept (aA HI).1 (fun k hk hn=>World.putObj_heap_other (fun e=>hn (.inr (.inr (.inr (.inr (.inl (by omega))))))))) (fun k _ hk => .inl hk)
  ·exact (aA HI).2.1.trans (Kp.of_grown (grownBy_putObj' W D _) (fun k e hy=>by cases e;have:=hY _ hy;omega))
 case stop=>rintro D pre W _ _ h;exact h.elim
end Go.Proofs.YtlljggefbngkeaaGreatDoor
namespace Go.Proofs.YtlljggefbngkeaaGreatDoor
open Go.RowKit
mutual
theorem FZ {w0:World} {b:Nat}:∀ t,aX t->jT w0 b t
 | .chr l,_=>SG l
 | .seq l,h=>by
  rw [aX] at h
  have i:=SI (w0:=w0) (b:=b) l h
  exact SF l i
 | .alt l,h=>by
  rw [aX] at h
  have i:=SI (w0:=w0) (b:=b) l h
  exact SH l i
 | .rep c t,h=>by
  rw [aX] at h
  have i:=FZ (w0:=w0) (b:=b) t h.2
  by_cases h63:c=63
  ·subst h63
   exact FY t i
  ·exact NG c (by have:=h.1;omega) t i
theorem SI {w0:World} {b:Nat}:∀ (l:List PT),bO l->∀ t,t∈l->jT w0 b t
 | [],_,t,h=>absurd h (List.not_mem_nil)
 | u::l,hl,t,h=>by
  rw [bO] at hl
  have iu:=FZ (w0:=w0) (b:=b) u hl.1
  have il:=SI (w0:=w0) (b:=b) l hl.2
  rcases List.mem_cons.1 h with rfl | h
  ·exact iu
  ·exact il t h
end
theorem MH.c {w:World} {Y:Nat->Prop} {b:Nat} {S:List cA} {st en:Nat} (h:MH w Y b S st en):w.cell? ⟨b,1,none⟩=some (.int .i64 (st:Int))/\w.cell? ⟨b,2,none⟩=some (.int .i64 (en:Int))/\∀ o,w.frozen? ⟨b,o,none⟩=false:=by
 obtain ⟨pv,xs,h⟩:=h
 exact ⟨by rw [aC h.blk 1];rfl,by rw [aC h.blk 2];rfl,fun o=>aM h.blk o⟩
theorem MH.setSE {w:World} {Y:Nat->Prop} {b:Nat} {S:List cA} {st en:Nat} (h:MH w Y b S st en) {i:Nat} (x st' en':Nat) (hi:(i=1/\st'=x/\en'=en)\/(i=2/\st'=st/\en'=x)):MH (w.setCell ⟨b,i,none⟩ (.int .i64 (x:Int))) Y b S st' en':=by
 obtain ⟨pv,xs,h⟩:=h
 have far:∀ k,k≠b->(w.setCell ⟨b,i,none⟩ (.int .i64 (x:Int))).heap[k]? = w.heap[k]? := fun k hk=>Below.heap_setCell _ _ _ _ hk
 exact ⟨pv,xs,{
  blk:=by
   have:=aK h.blk i (.int .i64 (x:Int))
   rcases hi with ⟨rfl,rfl,rfl⟩ | ⟨rfl,rfl,rfl⟩ <;> simpa [yP] using this
  own:=aI h.own fun k hk=>far k (fun e=>cM h.blk h.own (by decide) (by rw [hk,e]))
  free:=fun j p hp=>by
   obtain ⟨v,h1,h2,h3,h4,h5⟩:=h.free j p hp
   exact ⟨v,h1,h2,h3,aI h4 fun k hk=>far k (fun e=>cM h.blk h4 (by decide) (by rw [hk,e])),h5⟩
  nb:=h.nb
  np:=h.np}⟩
def PH (w:World) (t:PT) (e:Ending) (w':World):Prop:=∃ b,e = .returned (.pointer (some ⟨b,0,none⟩))/\MH w' (fun k=>k<w.heap.size) b (bK t).1 (bK t).2 0/\w.grownBy w' none
theorem SM {w:World} {Y:Nat->Prop} {t:PT} {p:Nat} (hT:TR w Y t p) (gG:aX t) (hsz:aP t<=1000):
  Calls Tryz.prog 98 #[.pointer (some ⟨p,0,none⟩)] w fun e w'=>PH w t e w':=by
 have hM0:MH (w.alloc (yP (.slice none 0 0) 0 0)) (fun k=>k<w.heap.size) w.heap.size [] 0 0:=by
  refine ⟨.slice none 0 0,[],?_⟩
  exact {
   blk:=heap_alloc_new w _
   own:=World.ownsRow_nil _ _ _ _
   free:=fun j q hq=>by simp at hq
   nb:=Nat.lt_irrefl _
   np:=fun k hk=>by cases hk}
 have HA:=aB (JL ⟨[],0,[]⟩ 0 (.slice none 0 0) iX hM0 (by simp) (World.ownsRow_nil _ _ _ _) (fun k hk=>by cases hk) (fun k hk=>by simp;omega))
 have HT:=aB (And.intro hT gG)
 clear hM0 hT gG
 go_enter Tryz.func98,Tryz.ntmps98
 go_wp2_with fail
 refine (aA HA).mono ?_
 rintro e w1 ⟨rfl,pS,cO⟩
 obtain ⟨c1,c2,cf⟩:=pS.c
 have cf2:=cf 2
 have cf1:=cf 1
 have mE:=pS.setSE (i:=2) 0 0 0 (.inr ⟨rfl,rfl,rfl⟩)
 have hkk:Kp (fun k=>k<w.heap.size) w (w.alloc (yP (.slice none 0 0) 0 0)):=Kp.alloc _ w _
 have hK2:=(hkk.trans cO).trans (Kp.set w1 w.heap.size 2 (.int .i64 ((0:Nat):Int)) (Nat.lt_irrefl w.heap.size))
 obtain ⟨e1,e2,ef⟩:=mE.c
 have ef1:=ef 1
 have hB2:Below w.heap.size w (w1.setCell ⟨w.heap.size,2,none⟩ (.int .i64 ((0:Nat):Int))):=⟨hK2.os,hK2.tape,hK2.output,hK2.size,fun k hk=>hK2.block k hk hk⟩
 have hT0:TR w (fun _=>False) t p:=TR.reY (fun _ _ h=>h.elim) (aA HT).1
 have HL:=aB (FZ (w0:=w) (b:=w.heap.size) t (aA HT).2 _ (fun k=>k<w.heap.size) [⟨[],0,[]⟩] 0 0 0 p hT0 (fun k hk=>hk) hB2 (fun k hk=>Nat.lt_of_lt_of_le hk hB2.size) mE (by simp;omega))
 have M8:=aB hK2
 clear pS cO mE hK2 hB2 hT0 HT HA cf ef hkk
 go_wp2_with fail
 refine (aA HL).mono ?_
 rintro e w3 ⟨rfl,j9,hK3⟩
 obtain ⟨g1,g2,gf⟩:=j9.c
 have gf1:=gf 1
 have HF:=aB (And.intro (j9.setSE (i:=1) (bK t).2 (bK t).2 0 (.inl ⟨rfl,rfl,rfl⟩)) (((aA M8).trans hK3).trans (Kp.set w3 w.heap.size 1 (.int .i64 ((bK t).2:Int)) (Nat.lt_irrefl w.heap.size))))
 clear j9 hK3 gf HL
 go_wp2
 go_ret
 obtain ⟨hM,hK⟩:=aA HF
 exact ⟨w.heap.size,rfl,hM,⟨hK.os,hK.tape,hK.output,hK.size,fun k hk _=>hK.block k hk hk⟩⟩
def JM (w:World) (gs:List Nat) (e:Ending) (w':World):Prop:=
 ∃ v',e = .returned v'/\w'.ownsRow 0 3 1 v' gs.length (cG gs)/\w.grownBy w' none/\∀ k,v'.ownBlock=some k->w.heap.size<=k
theorem aC6 {w:World} {v:Value} {gs:List Nat} (hv:w.ownsRow 0 3 1 v gs.length (cG gs)) (h0:gs=[]->v = .slice none 0 0) (hl:gs.length<=2000):
  Calls Tryz.prog 179 #[v] w fun e w'=>JM w gs e w':=by
 obtain ⟨i1,lW,hz0,hz1,hz2⟩:=info_parts Tryz.infoInt
 have qT:∀ (w:World) (a:Option Addr) (n c n' c':Nat),(binOp .eql 80 (.slice a n c) (.slice none n' c')).run Tryz.prog w = .ok (.bool a.isNone) w:=fun w a n c n' c'=>Lib.run_eql_slice_nil w _ _ a n c n' c' Tryz.underlying80
 by_cases hg:gs=[]
 ·obtain rfl:=h0 hg
  subst hg
  clear hv
  go_enter Tryz.func179,Tryz.ntmps179
  go_wp2
  go_ret
  exact ⟨_,rfl,World.ownsRow_nil _ _ _ _,World.grownBy.refl _ _,fun k e=>by cases e⟩
 ·have xH:0<gs.length:=List.length_pos_iff.2 hg
  obtain ⟨g,cap,rfl,_,hlt⟩:=hv.form xH
  have HV:=aB hv
  have hnews:∀ j u,(cG gs)[j]? = some u->(w.alloc (.cells #[] 3)).cell? ((⟨g,0,none⟩:Addr).add j)=some u:=by
   intro j u hu
   have hj:j<gs.length:=by have:=(List.getElem?_eq_some_iff.1 hu).1;simpa [cG] using this
   have vO:(⟨g,0,none⟩:Addr).add j=⟨g,j,none⟩:=by unfold Addr.add;split <;> simp_all
   rw [vO,World.cell?_alloc_past _ _ _ hlt,hv.cellAt j (by omega)]
   exact hu
  have sL:∀ u∈cG gs,u.oneCell'=true:=by
   intro u hu
   simp only [cG,List.mem_map] at hu
   obtain ⟨k,_,rfl⟩:=hu
   rfl
  have HN:=aB (And.intro hnews sL)
  clear hv hnews sL h0 hg
  go_enter Tryz.func179,Tryz.ntmps179
  go_wp2_with (at_builtin;refine wpList_append_lies _ rfl (.tmp 5) (.tmp 6) 80 rfl 0 3 i1 _ 1 8 Tryz.underlying80 lW hz0 hz1 hz2 rfl (by decide) (.slice (some ⟨w.heap.size,0,none⟩) 0 0) 0 [] rfl (World.ownsRow_lit w #[] 0 (Nat.zero_le _) (by unfold maxLen;omega) rfl) ⟨g,0,none⟩ gs.length cap (cG gs) rfl (by rw [BX];omega) (aA HN).1 (aA HN).2 xH (by unfold maxLen;omega) (by omega) (Nat.zero_le _) _ rfl ?_)
  intro g5 cap5 w5 bB aL bW gH
  go_wp2
  go_ret
  refine ⟨_,rfl,by simpa using bB,(World.grownBy_alloc w _ none).andThen aL (fun k e=>Or.inl ?_),?_⟩
  ·simp [Value.ownBlock] at e
   omega
  ·intro k e
   simp [Value.ownBlock] at e bW
   omega
def Cl (S:List cA) (N:Nat):Prop:=∀ (j:Nat) (q:cA),S[j]? = some q->q.nx<N/\∀ x,x∈q.free->x<N
theorem Cl.app {S:List cA} {N:Nat} (h:Cl S N) {p:cA} (h1:p.nx<N) (h2:∀ x,x∈p.free->x<N):Cl (S++[p]) N:=by
 intro j q hq
 rcases Nat.lt_or_ge j S.length with hj | hj
 ·rw [List.getElem?_append_left hj] at hq
  exact h j q hq
 ·have:j=S.length:=by have:=(List.getElem?_eq_some_iff.1 hq).1;simp at this;omega
  subst this
  have:q=p:=by simpa using hq.symm
  subst this
  exact ⟨h1,h2⟩
mutual
theorem mA:∀ (t:PT) (S:List cA) (to N:Nat),Cl S N->to<N->(bJ t S to).1.length<=N->Cl (bJ t S to).1 N/\(bJ t S to).2<N
 | .chr l,S,to,N,h,ht,hn=>by
  rw [bJ] at *
  simp at hn
  exact ⟨h.app ht (fun x hx=>by cases hx),by simp only;omega⟩
 | .seq l,S,to,N,h,ht,hn=>by
  rw [bJ] at *
  exact KT l S to N h ht hn
 | .alt l,S,to,N,h,ht,hn=>by
  rw [bJ] at *
  simp at hn
  obtain ⟨h1,h2⟩:=KV l S to N h ht (by omega)
  exact ⟨h1.app (by show 0<N;omega) h2,by simp only;omega⟩
 | .rep c t,S,to,N,h,ht,hn=>by
  rw [bJ] at *
  split
  ·rename_i hc
   rw [if_pos hc] at hn
   simp only [List.length_set] at hn
   have hx:=cY t (S++[⟨[],0,[]⟩]) S.length
   have hx1:=hx.1
   simp at hx1
   obtain ⟨h1,h2⟩:=mA t (S++[⟨[],0,[]⟩]) S.length N (h.app (by show 0<N;omega) (fun x hx=>by cases hx)) (by omega) hn
   refine ⟨fun j q hq=>?_,?_⟩
   ·by_cases hj:S.length=j
    ·subst hj
     rw [List.getElem?_set_self (by omega)] at hq
     cases hq
     refine ⟨by show 0<N;omega,fun x hx=>?_⟩
     simp at hx
     rcases hx with rfl | rfl
     ·exact ht
     ·exact h2
    ·rw [List.getElem?_set_ne hj] at hq
     exact h1 j q hq
   ·show (if c=43 then _ else _)<N
    split
    ·exact h2
    ·omega
  ·rename_i hc
   rw [if_neg hc] at hn
   simp at hn
   obtain ⟨h1,h2⟩:=mA t S to N h ht (by omega)
   refine ⟨h1.app (by show 0<N;omega) (fun x hx=>?_),by simp only;omega⟩
   simp at hx
   rcases hx with rfl | rfl
   ·exact ht
   ·exact h2
theorem KT:∀ (l:List PT) (S:List cA) (to N:Nat),Cl S N->to<N->(fY l S to).1.length<=N->Cl (fY l S to).1 N/\(fY l S to).2<N
 | [],S,to,N,h,ht,hn=>by rw [fY] at *;exact ⟨h,ht⟩
 | t::l,S,to,N,h,ht,hn=>by
  rw [fY] at *
  have hx:=cY t (fY l S to).1 (fY l S to).2
  obtain ⟨h1,h2⟩:=KT l S to N h ht (by have:=hx.1;omega)
  exact mA t _ _ N h1 h2 hn
theorem KV:∀ (l:List PT) (S:List cA) (to N:Nat),Cl S N->to<N->(eK l S to).1.length<=N->Cl (eK l S to).1 N/\∀ x,x∈(eK l S to).2->x<N
 | [],S,to,N,h,ht,hn=>by rw [eK] at *;exact ⟨h,fun x hx=>by cases hx⟩
 | t::l,S,to,N,h,ht,hn=>by
  rw [eK] at *
  have hx:=sH l (bJ t S to).1 to
  obtain ⟨h1,h2⟩:=mA t S to N h ht (by have:=hx.1;simp only at hn;omega)
  obtain ⟨h3,h4⟩:=KV l _ to N h1 ht hn
  refine ⟨h3,fun x hx=>?_⟩
  rcases List.mem_cons.1 hx with rfl | hx
  ·exact h2
  ·exact h4 x hx
end
theorem yR (t:PT):Cl (bK t).1 (bK t).1.length/\(bK t).2<(bK t).1.length/\0<(bK t).1.length:=by
 have hx:=(cY t [⟨[],0,[]⟩] 0).1
 have xH:0<(bK t).1.length:=by unfold bK;simp at hx;omega
 have:=mA t [⟨[],0,[]⟩] 0 (bK t).1.length (fun j q hq=>by
  match j,hq with
  | 0,hq=>cases hq;exact ⟨xH,fun x hx=>by cases hx⟩
  | j+1,hq=>simp at hq) xH (Nat.le_refl _)
 exact ⟨this.1,this.2,xH⟩
def Fl (S:List cA):Prop:=∀ q,q∈S->q.free.length<=1000
theorem Fl.app {S:List cA} (h:Fl S) {p:cA} (hp:p.free.length<=1000):Fl (S++[p]):=fun q hq=>by
 rcases List.mem_append.1 hq with hq | hq
 ·exact h q hq
 ·rw [List.mem_singleton] at hq
  subst hq
  exact hp
theorem P9:∀ (l:List PT) (S:List cA) (to:Nat),(eK l S to).2.length=l.length
 | [],S,to=>by rw [eK];rfl
 | t::l,S,to=>by rw [eK];simp [P9 l]
mutual
theorem lZ:∀ (t:PT) (S:List cA) (to:Nat),Fl S->aP t<=1000->Fl (bJ t S to).1
 | .chr l,S,to,h,hs=>by
  rw [bJ]
  exact h.app (by simp)
 | .seq l,S,to,h,hs=>by
  rw [bJ]
  rw [aP] at hs
  exact KS l S to h (by omega)
 | .alt l,S,to,h,hs=>by
  rw [bJ]
  rw [aP] at hs
  have hl:=rX l
  exact (KU l S to h (by omega)).app (by rw [P9];omega)
 | .rep c t,S,to,h,hs=>by
  rw [bJ]
  rw [aP] at hs
  have h1:=lZ t (S++[⟨[],0,[]⟩]) S.length (h.app (by simp)) (by omega)
  have h2:=lZ t S to h (by omega)
  split
  ·intro q hq
   rcases List.mem_or_eq_of_mem_set hq with hq | rfl
   ·exact h1 q hq
   ·simp
  ·exact h2.app (by simp)
theorem KS:∀ (l:List PT) (S:List cA) (to:Nat),Fl S->aR l<=1000->Fl (fY l S to).1
 | [],S,to,h,hs=>by rw [fY];exact h
 | t::l,S,to,h,hs=>by
  rw [fY]
  rw [aR] at hs
  have h1:=KS l S to h (by omega)
  exact lZ t _ _ h1 (by omega)
theorem KU:∀ (l:List PT) (S:List cA) (to:Nat),Fl S->aR l<=1000->Fl (eK l S to).1
 | [],S,to,h,hs=>by rw [eK];exact h
 | t::l,S,to,h,hs=>by
  rw [eK]
  rw [aR] at hs
  have h1:=lZ t S to h (by omega)
  exact KU l _ to h1 (by omega)
end
theorem yQ {t:PT} (h:aP t<=1000):Fl (bK t).1:=lZ t _ _ (fun q hq=>by rw [List.mem_singleton] at hq;subst hq;simp) h
theorem vJ {t:PT} (h:aP t<=1000):(bK t).1.length<=2000:=by
 have:=fL t [⟨[],0,[]⟩] 0
 unfold bK
 simp at this
 omega
end Go.Proofs.YtlljggefbngkeaaGreatDoor
namespace Go.Proofs.YtlljggefbngkeaaGreatDoor
open Go.RowKit Go.Shelf
section
variable {F:Fence} {n:Nat} {P:Program}
theorem uA {w:World} {ops:Array Oper} {rest:List Oper} {o:Oper} {a:Act} {Q:Exit->Act->World->Prop} (hgd:o.guard=none) (s x:Operand) (t:TypeId)
  (ho:o.op = .call {callee := .builtin .append,args := #[s,x],argTypes := #[t,t]})
  (e:TypeId) (i:TypeInfo) (z:Value) (bytes:Nat) (ht:P.underlying t=some (.slice e)) (hi:P.info? e=some i) (hz:i.zero=some z)
  (hsize:i.size=1) (hby:i.bytes=bytes) (hzs:z.cells.size=1)
  (v:Value) (m:Nat) (xs:List Value) (hs:a.eval s=v) (hown:w.ownsRow 0 e 1 v m xs)
  (u:Value) (k:Nat) (ys:List Value) (hx:a.eval x=u) (hu:w.ownsRow 0 e 1 u k ys) (h1:∀ y∈ys,y.oneCell'=true)
  (h63:m+k<=maxLen) (hbytes:(m+k)*bytes<=140737488355328)
  (h:∀ v' w',w'.ownsRow 0 e 1 v' (m+k) (xs++ys)->w.grownBy w' v.ownBlock->(v'.ownBlock=v.ownBlock\/v'.ownBlock=some w.heap.size)->wpListIn F n P ops Q rest (a.put o.dst v') w'):wpListIn F n P ops Q (o::rest) a w:=by
 have hrun:∃ v' w',(Builtin.append_ #[t,t] o.type #[v,u]).run P w = .ok v' w'/\w'.ownsRow 0 e 1 v' (m+k) (xs++ys)/\w.grownBy w' v.ownBlock/\(v'.ownBlock=v.ownBlock\/v'.ownBlock=some w.heap.size):=by
  rcases hu.2 with ⟨rfl,rfl⟩ | ⟨g,cap,cur,rfl,_,hg,hkc,hcm,hcs,kB⟩
  ·have hy:ys=[]:=List.eq_nil_of_length_eq_zero (by simpa using hu.1)
   subst hy
   exact ⟨v,w,run_append_owned_none (P:=P) w 0 t o.type e i 1 ht hi v m xs hown,by simpa using hown,World.grownBy.refl _ _,.inl rfl⟩
  ·obtain ⟨v',w',r1,r2,r3,_,r5⟩:=run_append_own_at (P:=P) w 0 t o.type e i z 1 bytes ht hi hz hsize hby hzs (by decide) v m xs hown ⟨g,0,none⟩ k cap ys hu.1 (fun j y hy=>by
    have hj:j<k*1:=by have:=(List.getElem?_eq_some_iff.1 hy).1;rw [hu.1] at this;exact this
    have vO:(⟨g,0,none⟩:Addr).add j=⟨g,j,none⟩:=by unfold Addr.add;split <;> simp_all
    rw [vO,hu.cellAt j hj]
    exact hy) h1 h63 hbytes (Nat.zero_le _)
   exact ⟨v',w',r1,r2,r3,r5⟩
 obtain ⟨v',w',hr,r1,r2,r3⟩:=hrun
 refine wpListIn_plain hgd fun K hK'=>?_
 unfold Oper.wpIn
 refine ⟨?_,?_⟩
 ·simp [Oper.about,ho,resolve,Target.leads,Sem.run_pure]
 ·rw [Oper.semAt_plain F _ _ (by rw [ho];intro c hc';cases hc')]
  simp [execOp,ho,resolve,invoke,builtin,hs,hx,hr,Result.andThen]
  exact hK' _ _ (h v' w' r1 r2 r3)
theorem uW {w:World} {ops:Array Oper} {rest:List Oper} {o:Oper} {a:Act} {Q:Exit->Act->World->Prop}
  (hg:o.guard=none) (l c:Operand) (t:TypeId) (hop:o.op=Op.makeSlice t l c)
  (e:TypeId) (i:TypeInfo) (z:Value) (size:Nat) (h1:P.underlying t=some (.slice e)) (h2:P.info? e=some i) (h3:i.zero=some z) (h4:i.size=size)
  (kl kc:IntKind) (L C:Int) (m:Nat) (hl:a.eval l = .int kl L) (hc:a.eval c = .int kc C) (hL:L=(m:Int)) (hC:C=(m:Int)) (b2:i.bytes*m<=281474976710656) (b3:m<=maxLen)
  (hK:∀ w',w'.ownsRow 0 e size (.slice (some ⟨w.heap.size,0,none⟩) m m) m (madeCells z.cells (m*size)).toList->w.grownBy w' none->wpListIn F n P ops Q rest (a.put o.dst (.slice (some ⟨w.heap.size,0,none⟩) m m)) w'):
  wpListIn F n P ops Q (o::rest) a w:=by
 refine wpListIn_plain hg fun K hK'=>?_
 obtain ⟨w',hrun,r1,r2⟩:=run_make_full (P:=P) w 0 t e i z size h1 h2 h3 h4 kl kc m b2 b3 (Nat.zero_le _)
 subst hL
 subst hC
 unfold Oper.wpIn
 refine ⟨?_,?_⟩
 ·simp [Oper.about,hop]
 ·rw [Oper.semAt_plain F _ _ (by rw [hop];intro c hc';cases hc')]
  simp [execOp,hop,hl,hc,hrun,Result.andThen]
  exact hK' _ _ (hK w' r1 r2)
end
end Go.Proofs.YtlljggefbngkeaaGreatDoor
namespace Go.Proofs.YtlljggefbngkeaaGreatDoor
open Go.RowKit Go.Shelf
attribute [local go_sem] Oper.semAt_some
def wt (f:Nat->Bool) (g:Nat->Nat):Nat->Nat
 | 0=>0
 | n+1=>wt f g n+(if f n then 0 else g n)
theorem wH {f f':Nat->Bool} {g:Nat->Nat}:∀ {n:Nat},(∀ x,x<n->f x=f' x)->wt f g n=wt f' g n
 | 0,_=>rfl
 | n+1,h=>by rw [wt,wt,wH (n:=n) (fun x hx=>h x (by omega)),h n (by omega)]
theorem yC {f:Nat->Bool} {g:Nat->Nat} {k:Nat} (hk:f k=false):∀ {n:Nat},k<n->wt (K8 f k true) g n+g k=wt f g n
 | 0,h=>by omega
 | n+1,h=>by
  rw [wt,wt]
  by_cases e:k=n
  ·subst e
   rw [wH (f:=K8 f k true) (f':=f) (n:=k) (fun x hx=>by unfold K8;rw [if_neg (by omega)])]
   simp [K8,hk]
  ·have:=yC (g:=g) hk (n:=n) (by omega)
   have h2:K8 f k true n=f n:=by unfold K8;rw [if_neg (by omega)]
   rw [h2]
   omega
theorem JU (g:Nat->Nat) (c:Nat) (hg:∀ x,g x<=c) (f:Nat->Bool):∀ n,wt f g n<=c*n
 | 0=>by simp [wt]
 | n+1=>by
  have:=JU g c hg f n
  have h2:=hg n
  rw [wt,Nat.mul_succ]
  split <;> omega
theorem QG:∀ n,wt (fun _=>false) (fun _=>1) n=n
 | 0=>rfl
 | n+1=>by rw [wt,QG n];rfl
def bZ (S:List cA) (x:Nat):Nat:=match S[x]? with | some p=>p.free.length | none=>0
def fOf (w:World) (g x:Nat):Bool:=match w.cell? ⟨g,x,none⟩ with | some (.bool y)=>y | _=>false
theorem VG {w:World} {g n c:Nat} {f:Nat->Bool} (h:BR w g n c f) (x:Nat) (hx:x<n):fOf w g x=f x:=by
 unfold fOf
 rw [h.cell x hx]
def wT:Value->Nat
 | .slice _ n _=>n
 | _=>0
theorem IV {S:List cA} {pre:List Nat} (h:∀ x,x∈pre->∀ p,S[x]? = some p->∀ y,y∈p.free->y∈pre) {k a:Nat} {v:List UInt8} {x:Nat} (hr:jF S k a v x):v=[]->a∈pre->x∈pre:=by
 induction hr with
 | refl a=>intro _ h;exact h
 | sign h1 h2 h3 ih=>intro e;cases e
 | free h1 h2 h3 ih=>intro e ha;exact ih e (h _ ha _ h1 _ h2)
theorem zK.one {S:List cA} {a x y:Nat} {p:cA} (h:zK S a x) (hp:S[x]? = some p) (hy:y∈p.free):zK S a y:=h.trans (zK.step hp hy (zK.refl S y))
theorem RX {w:World} {e:TypeId} {g m cap:Nat} {xs:List Value} {y:Value} (h:w.ownsRow 0 e 1 (.slice (some ⟨g,0,none⟩) (m+1) cap) (m+1) (xs++[y])) (hx:xs.length=m):w.ownsRow 0 e 1 (.slice (some ⟨g,0,none⟩) m cap) m xs:=by
 refine ⟨by omega,?_⟩
 rcases h.2 with ⟨h',_⟩ | ⟨g',cap',cur,h',hb,hg,hnc,hcm,hcs,kB⟩
 ·simp at h'
 ·simp only [Value.slice.injEq,Option.some.injEq,Addr.mk.injEq,and_true,true_and] at h'
  obtain ⟨rfl,rfl⟩:=h'
  refine .inr ⟨g,cap,cur,rfl,hb,hg,by omega,hcm,hcs,?_⟩
  have h2:=congrArg (List.take m) kB
  rw [List.take_take] at h2
  rw [show m*1=min m ((m+1)*1) by omega,h2,List.take_append_of_le_length (by omega),List.take_of_length_le (by omega)]
theorem YP {α:Type} (l:List α) (h:0<l.length):∃ l' x,l=l'++[x]:=
 ⟨l.dropLast,l.getLast (List.ne_nil_of_length_pos h),(List.dropLast_concat_getLast _).symm⟩
structure RI (wm:World) (Br b:Nat) (S:List cA) (N0:List Nat) (Bm N gsn:Nat) (fp:World->Nat->Prop) (J:List Nat->World->Prop) (v:Value) (wr:World) (pre wl:List Nat) (f:Nat->Bool):Prop where
 own:wr.ownsRow 0 3 1 v wl.length (cG wl)
 br:BR wr gsn S.length S.length f
 fs:∀ j,j<S.length->(f j=true↔j∈pre)
 wl1:∀ x,x∈wl->x<S.length/\∃ a,a∈N0/\zK S a x
 pr:∀ x,x∈pre->∃ a,a∈N0/\zK S a x
 n0:∀ a,a∈N0->a∈pre\/a∈wl
 fr:∀ x,x∈pre->∀ p,S[x]? = some p->∀ y,y∈p.free->y∈pre\/y∈wl
 cnt:pre.length+wt f (fun _=>1) S.length=S.length
 bd:wl.length+wt f (bZ S) S.length<=4000000
 j:J pre wr
 bel:Kp (fun k=>k≠Br) wm wr
 bx:wr.heap[Bm]? = some (.cells #[.pointer (some ⟨b,0,none⟩)] 120 (0,0))
 ob:∀ k,v.ownBlock=some k->N<=k/\k≠gsn/\¬ fp wr k
 og:¬ fp wr gsn
def I6 (x:Nat):Array Value := #[.int .i64 (x:Int)]
theorem MH.row {w w':World} {Br b:Nat} {S:List cA} {st en:Nat} (h:MH w (fun k=>k=Br) b S st en) (hB:Kp (fun k=>k≠Br) w w'):∃ ao cp,w'.cell? ⟨b,0,none⟩=some (.slice ao S.length cp)/\w'.cell? ⟨b,2,none⟩=some (.int .i64 (en:Int))/\
  ∀ j p,S[j]? = some p->∃ g v,ao=some ⟨g,0,none⟩/\(∃ n:Nat,eU n p.set/\w'.cell? ⟨g,j*3,none⟩=some (.int .u64 (n:Int)))/\w'.cell? ⟨g,j*3+1,none⟩=some (.int .i64 (p.nx:Int))/\w'.cell? ⟨g,j*3+2,none⟩=some v/\w'.ownsRow 0 3 1 v p.free.length (cG p.free)/\∀ k,v.ownBlock=some k->k<w.heap.size:=by
 obtain ⟨pv,xs,h⟩:=h
 obtain ⟨ao,cp,rfl⟩:=aG h.own
 have hb':=(hB.block b (aD h.blk) h.nb).trans h.blk
 have ho:=aI h.own (fun k e=>hB.block k (aJ h.own k e) (h.np k e))
 refine ⟨ao,cp,by rw [aC hb' 0];rfl,by rw [aC hb' 2];rfl,fun j p hp=>?_⟩
 have hj:j<S.length:=(List.getElem?_eq_some_iff.1 hp).1
 obtain ⟨g,cap,fM,_,dB⟩:=ho.form (by omega)
 injection fM with hao _ nY
 subst hao
 subst nY
 obtain ⟨v,⟨n,hn1,PN⟩,h2,h3,h4,h5⟩:=h.free j p hp
 rw [Nat.mul_comm 3 j] at PN h2 h3
 refine ⟨g,v,rfl,⟨n,hn1,?_⟩,?_,?_,aI h4 (fun k e=>hB.block k (aJ h4 k e) (h5 k e)),fun k e=>aJ h4 k e⟩
 ·rw [ho.cellAt _ (by omega)];exact PN
 ·rw [ho.cellAt _ (by omega)];exact h2
 ·rw [ho.cellAt _ (by omega)];exact h3
end Go.Proofs.YtlljggefbngkeaaGreatDoor
