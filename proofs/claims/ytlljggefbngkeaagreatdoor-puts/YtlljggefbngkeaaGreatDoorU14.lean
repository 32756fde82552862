import Derived.Test.YtlljggefbngkeaaGreatDoorU12
import Derived.Test.YtlljggefbngkeaaGreatDoorU08
import Derived.Lib.SliceRun
import Derived.Test.YtlljggefbngkeaaGreatDoorU13
import Derived.Test.YtlljggefbngkeaaGreatDoorU09
import Derived.BigRegion
set_option maxRecDepth 100000
set_option maxHeartbeats 3200000
namespace Go.Proofs.YtlljggefbngkeaaGreatDoor
open Go.RowKit
theorem Tryz.infoPtr:(Tryz.prog.info? 116).map (fun i=>(i.zero,i.size,i.bytes))=some (some (.pointer none),1,8):=by kernel_rfl
theorem tU (s:ByteArray):∀ n i (l0 l:List UInt8) j,cQ s n i l0 = .ok l j->i<j
 | 0,i,l0,l,j,h=>by rw [cQ] at h;cases h
 | n+1,i,l0,l,j,h=>by
  rw [cQ] at h
  split at h
  ·split at h
   ·split at h
    ·split at h
     ·cases h;omega
     ·have:=tU s n _ _ _ _ h;omega
    ·cases h
   ·split at h
    ·cases h;omega
    ·have:=tU s n _ _ _ _ h;omega
  ·cases h
theorem LM (s:ByteArray) (t:PT) (j:Nat):j<=(gZ s t j).2:=by
 unfold gZ
 split
 ·exact Nat.le_succ _
 ·exact Nat.le_refl _
theorem OK (s:ByteArray):∀ n,(∀ i t j,dX s n i = .ok t j->i<j)/\(∀ i l j,bU s n i = .ok l j->i<=j)/\(∀ i l j,cI s n i = .ok l j->i<=j)
 | 0=>⟨fun i t j h=>(by rw [dX] at h;cases h),fun i l j h=>(by rw [bU] at h;cases h),fun i l j h=>(by rw [cI] at h;cases h)⟩
 | n+1=>by
  obtain ⟨h1,h2,h3⟩:=OK s n
  refine ⟨fun i t j h=>?_,fun i l j h=>?_,fun i l j h=>?_⟩
  ·rw [dX] at h
   split at h
   ·cases hg:cQ s n (i+1) [] with
    | err p=>rw [hg] at h;cases h
    | ok l j' =>
     rw [hg] at h
     cases h
     have:=tU s n _ _ _ _ hg
     omega
   ·split at h
    ·cases hg:cI s n (i+1) with
     | err p=>rw [hg] at h;cases h
     | ok l j' =>
      rw [hg] at h
      have:=h3 _ _ _ hg
      simp only [cN.bind] at h
      split at h
      ·cases h;omega
      ·cases h
    ·split at h
     ·cases h;omega
     ·cases h
  ·rw [bU] at h
   split at h
   ·cases hg:dX s n i with
    | err p=>rw [hg] at h;cases h
    | ok t j' =>
     rw [hg] at h
     simp only [cN.bind] at h
     cases hb:bU s n (gZ s t j').2 with
     | err p=>rw [hb] at h;cases h
     | ok l' j'' =>
      rw [hb] at h
      cases h
      have:=h1 _ _ _ hg
      have:=h2 _ _ _ hb
      have:=LM s t j'
      omega
   ·cases h;omega
  ·rw [cI] at h
   cases hg:bU s n i with
   | err p=>rw [hg] at h;cases h
   | ok l' j' =>
    rw [hg] at h
    have:=h2 _ _ _ hg
    simp only [cN.bind] at h
    split at h
    ·cases hb:cI s n (j'+1) with
     | err p=>rw [hb] at h;cases h
     | ok l' j'' =>
      rw [hb] at h
      cases h
      have:=h3 _ _ _ hb
      omega
    ·cases h;omega
theorem dN.push {w:World} {Y:Nat->Prop} {t:PT} {g:Nat} (ht:TR w Y t g):∀ {l:List PT} {gs:List Nat},dN w Y l gs->dN w Y (l++[t]) (gs++[g])
 | [],[],_=>by rw [List.nil_append,List.nil_append,dN,dN];exact ⟨ht,trivial⟩
 | u::l,k::gs,h=>by rw [List.cons_append,List.cons_append,dN] at *;exact ⟨h.1,dN.push ht h.2⟩
 | [],k::ks,h=>by simp [dN] at h
 | t::l,[],h=>by simp [dN] at h
theorem tM {wr w3 w5:World} {b g5 m cap:Nat} {v:Value} {o:Obj} {X:Nat->Prop} (dB:∀ k,v.ownBlock=some k->k<wr.heap.size) (hX:∀ k,X k->k<wr.heap.size) (hb:X b)
  (hg3:wr.grownBy w3 (some b)) (aL:(w3.alloc o).grownBy w5 v.ownBlock) (bW:v.ownBlock=some g5\/g5=w3.heap.size+1):
  (∀ {T:World->(Nat->Prop)->Prop},Loc T->T wr (fun k=>X k\/v.ownBlock=some k)->T w5 (fun k=>X k\/(Value.slice (some ⟨g5,0,none⟩) m cap).ownBlock=some k))/\
  (∀ {T:World->(Nat->Prop)->Prop},Loc T->T w3 (fun k=>k<wr.heap.size)->T w5 (fun k=>X k\/(Value.slice (some ⟨g5,0,none⟩) m cap).ownBlock=some k))/\
  (∀ k,k<w3.heap.size->v.ownBlock≠some k->w5.heap[k]? = w3.heap[k]?):=by
 have hs3:=hg3.size
 have ha3:(w3.alloc o).heap.size=w3.heap.size+1:=by simp
 have old5:∀ k,k<w3.heap.size->v.ownBlock≠some k->w5.heap[k]? = w3.heap[k]? := fun k hk hne=>by
  rw [aL.block k (by omega) (Ne.symm hne)]
  exact (World.grownBy_alloc w3 o none).block k hk (by simp)
 have hob:∀ k,(Value.slice (some ⟨g5,0,none⟩) m cap).ownBlock=some k↔g5=k:=fun k=>by simp [Value.ownBlock]
 refine ⟨fun {T} L h=>?_,fun {T} L h=>?_,old5⟩
 ·have h1:T wr (fun k=>(X k\/v.ownBlock=some k)\/(X k\/(Value.slice (some ⟨g5,0,none⟩) m cap).ownBlock=some k)):=by
   refine L.reY (fun k hk hz=>?_) h
   rcases hz with hz | hz | hz
   ·exact hz
   ·exact Or.inl hz
   ·have:=(hob k).1 hz
    subst this
    rcases bW with h | h
    ·exact Or.inr h
    ·omega
  refine L.reY (fun k hk hz=>Or.inr hz) (L.kept (w':=w5) (fun k hk hz=>?_) h1)
  rw [old5 k (by omega) (fun e=>hz (Or.inl (Or.inr e)))]
  exact hg3.block k hk (fun e=>hz (Or.inl (Or.inl (by cases e;exact hb))))
 ·have h1:T w3 (fun k=>k<wr.heap.size\/(X k\/(Value.slice (some ⟨g5,0,none⟩) m cap).ownBlock=some k)):=by
   refine L.reY (fun k hk hz=>?_) h
   rcases hz with hz | hz | hz
   ·exact hz
   ·exact hX k hz
   ·have:=(hob k).1 hz
    subst this
    rcases bW with h | h
    ·exact dB _ h
    ·omega
  refine L.reY (fun k hk hz=>Or.inr hz) (L.kept (w':=w5) (fun k hk hz=>?_) h1)
  exact old5 k hk (fun e=>hz (Or.inl (dB k e)))
theorem qB {w wr w3 w5:World} {b:Nat} {v:Value} {o:Obj} (rT:∀ k,v.ownBlock=some k->¬ k<w.heap.size) (hg:w.grownBy wr (some b)) (hg3:wr.grownBy w3 (some b)) (aL:(w3.alloc o).grownBy w5 v.ownBlock):w.grownBy w5 (some b):=
 ((hg.trans hg3).trans (World.grownBy_alloc w3 o _)).andThen aL (fun k e=>Or.inl (by have:=rT k e;omega))
theorem p7 {w wr w3:World} {b g5 m cap:Nat} {v:Value} (rT:∀ k,v.ownBlock=some k->¬ k<w.heap.size) (hg:w.grownBy wr (some b)) (hg3:wr.grownBy w3 (some b)) (bW:v.ownBlock=some g5\/g5=w3.heap.size+1):∀ k,(Value.slice (some ⟨g5,0,none⟩) m cap).ownBlock=some k->¬ k<w.heap.size:=by
 intro k e
 have:g5=k:=by simpa [Value.ownBlock] using e
 subst this
 rcases bW with h | h
 ·exact rT _ h
 ·have:=hg.size
  have:=hg3.size
  omega
def PF (w:World) (gs:List Nat) (e:Ending) (w':World):Prop:=
 ∃ v',e = .returned v'/\w'.ownsRow 0 116 1 v' gs.length (bD gs)/\w.grownBy w' none/\∀ k,v'.ownBlock=some k->w.heap.size<=k
theorem BP (gs:List Nat):(bD gs).length=gs.length:=by simp [bD]
theorem aC0 {w:World} {v:Value} {gs:List Nat} (hv:w.ownsRow 0 116 1 v gs.length (bD gs)) (h0:gs=[]->v = .slice none 0 0) (hl:gs.length<=1000):
  Calls Tryz.prog 162 #[v] w fun e w'=>PF w gs e w':=by
 obtain ⟨i1,lW,hz0,hz1,hz2⟩:=info_parts Tryz.infoPtr
 have qT:∀ (w:World) (a:Option Addr) (n c n' c':Nat),(binOp .eql 162 (.slice a n c) (.slice none n' c')).run Tryz.prog w = .ok (.bool a.isNone) w:=fun w a n c n' c'=>Lib.run_eql_slice_nil w _ _ a n c n' c' Tryz.underlying162
 by_cases hg:gs=[]
 ·obtain rfl:=h0 hg
  subst hg
  clear hv
  go_enter Tryz.func162,Tryz.ntmps162
  go_wp2
  go_ret
  exact ⟨_,rfl,World.ownsRow_nil _ _ _ _,World.grownBy.refl _ _,fun k e=>by cases e⟩
 ·have xH:0<gs.length:=List.length_pos_iff.2 hg
  obtain ⟨g,cap,rfl,_,hlt⟩:=hv.form xH
  have HV:=aB hv
  have hnews:∀ j u,(bD gs)[j]? = some u->(w.alloc (.cells #[] 116)).cell? ((⟨g,0,none⟩:Addr).add j)=some u:=by
   intro j u hu
   have hj:j<gs.length:=by have:=(List.getElem?_eq_some_iff.1 hu).1;simpa [bD] using this
   have vO:(⟨g,0,none⟩:Addr).add j=⟨g,j,none⟩:=by unfold Addr.add;split <;> simp_all
   rw [vO,World.cell?_alloc_past _ _ _ hlt,hv.cellAt j (by omega)]
   exact hu
  have sL:∀ u∈bD gs,u.oneCell'=true:=by
   intro u hu
   simp only [bD,List.mem_map] at hu
   obtain ⟨k,_,rfl⟩:=hu
   rfl
  have HN:=aB (And.intro hnews sL)
  clear hv hnews sL h0 hg
  go_enter Tryz.func162,Tryz.ntmps162
  go_wp2_with (at_builtin;refine wpList_append_lies _ rfl (.tmp 5) (.tmp 6) 162 rfl 0 116 i1 _ 1 8 Tryz.underlying162 lW hz0 hz1 hz2 rfl (by decide) (.slice (some ⟨w.heap.size,0,none⟩) 0 0) 0 [] rfl (World.ownsRow_lit w #[] 0 (Nat.zero_le _) (by unfold maxLen;omega) rfl) ⟨g,0,none⟩ gs.length cap (bD gs) rfl (by rw [BP];omega) (aA HN).1 (aA HN).2 xH (by unfold maxLen;omega) (by omega) (Nat.zero_le _) _ rfl ?_)
  intro g5 cap5 w5 bB aL bW gH
  go_wp2
  go_ret
  refine ⟨_,rfl,by simpa using bB,(World.grownBy_alloc w _ none).andThen aL (fun k e=>Or.inl ?_),?_⟩
  ·simp [Value.ownBlock] at e
   omega
  ·intro k e
   simp [Value.ownBlock] at e bW
   omega
def rE (w:World) (Y:Nat->Prop) (t:PT) (e:Ending) (w':World):Prop:=∃ g,e = .returned (.pointer (some ⟨g,0,none⟩))/\w.grownBy w' none/\TR w' Y t g
theorem dN.len {w:World} {Y:Nat->Prop}:∀ {l:List PT} {gs:List Nat},dN w Y l gs->gs.length=l.length
 | [],[],_=>rfl
 | u::l,k::gs,h=>by rw [dN] at h;simp [dN.len h.2]
 | [],k::ks,h=>by simp [dN] at h
 | t::l,[],h=>by simp [dN] at h
def B3 (how:Int) (l:List PT):PT:=if how=1 then gM l else rF l
theorem ND (how:Int) (t:PT):B3 how [t]=t:=by unfold B3;split <;> rfl
theorem RW {how:Int} (hh:how=1\/how=2) {l:List PT} (hl:l.length≠1) {w:World} {Y:Nat->Prop} {g:Nat} {v:Value} {gs:List Nat} (h0:¬ Y g) (h1:w.heap[g]? = some (vG how 0 v)) (h2:PV w Y v gs) (h3:dN w Y l gs):TR w Y (B3 how l) g:=by
 have e:B3 how l=if how=1 then .seq l else .alt l:=by
  match l,hl with
  | [],_=>rfl
  | [t],h=>exact absurd rfl h
  | t::u::l,_=>rfl
 rw [e]
 rcases hh with rfl | rfl
 ·rw [if_pos rfl,TR];exact ⟨h0,v,gs,h1,h2,h3⟩
 ·rw [if_neg (by decide),TR];exact ⟨h0,v,gs,h1,h2,h3⟩
theorem KK {w:World} {Y:Nat->Prop} {v:Value} {gs:List Nat} {l:List PT} (how:Int) (hh:how=1\/how=2) (hv:w.ownsRow 0 116 1 v gs.length (bD gs)) (h0:gs=[]->v = .slice none 0 0) (hl:gs.length<=1000) (hT:dN w Y l gs) (hY:∀ k,Y k->k<w.heap.size):
  Calls Tryz.prog 144 #[.int .i64 how,v] w fun e w'=>rE w Y (B3 how l) e w':=by
 have hlen:=hT.len
 by_cases h1:gs.length=1
 ·obtain ⟨g,rfl⟩:=List.length_eq_one_iff.1 h1
  obtain ⟨t,rfl⟩:=List.length_eq_one_iff.1 (hlen.symm.trans h1)
  obtain ⟨k,cap,rfl,_,hlt⟩:=hv.form (by simp)
  have c0:=hv.cellAt 0 (by simp)
  simp [bD] at c0
  rw [dN] at hT
  have HT:=aB hT.1
  clear hT hv h0 hlen
  simp only [List.length_singleton] at *
  go_enter Tryz.func144,Tryz.ntmps144
  go_wp2
  go_ret
  refine ⟨g,rfl,World.grownBy.refl _ _,?_⟩
  rw [ND]
  exact aA HT
 ·obtain ⟨ao,cp,rfl⟩:=aG hv
  have q1:((gs.length:Int)==1)=false:=by rw [beq_eq_false_iff_ne];omega
  have HC:=aB (aC0 hv h0 hl)
  have HT:=aB hT
  have oN:l.length≠1:=by omega
  clear hv h0 hT h1 hlen
  go_enter Tryz.func144,Tryz.ntmps144
  go_wp2_with fail
  refine (aA HC).mono ?_
  rintro e w1 ⟨v1,rfl,hown1,hg1,hn1⟩
  obtain ⟨ao1,cp1,rfl⟩:=aG hown1
  go_wp2
  go_ret
  have hg:=hg1.trans (World.grownBy_alloc w1 (vG how 0 (.slice ao1 gs.length cp1)) none)
  refine ⟨w1.heap.size,rfl,hg,?_⟩
  have hs1:=hg1.size
  refine RW hh oN (fun hy=>by have:=hY _ hy;omega) (heap_alloc_new w1 _) ⟨hown1.alloc _,fun k e hy=>by have:=hY _ hy;have:=hn1 k e;omega⟩ ?_
  exact dN.kept (fun k hk _=>hg.block k hk (by simp)) (aA HT)
theorem RN {w:World} {Y:Nat->Prop} {v:Value} {gs:List Nat} {l:List PT} (hv:w.ownsRow 0 116 1 v gs.length (bD gs)) (h0:gs=[]->v = .slice none 0 0) (hl:gs.length<=1000) (hT:dN w Y l gs) (hY:∀ k,Y k->k<w.heap.size):
  Calls Tryz.prog 108 #[v] w fun e w'=>rE w Y (gM l) e w':=by
 have H:=aB (KK 1 (Or.inl rfl) hv h0 hl hT hY)
 rw [show B3 1 l=gM l from rfl] at H
 clear hv h0 hT hY
 go_enter Tryz.func108,Tryz.ntmps108
 go_wp2_with fail
 refine (aA H).mono ?_
 rintro e w1 ⟨g,rfl,hg,hT⟩
 go_wp2
 go_ret
 exact ⟨g,rfl,hg,hT⟩
theorem U6 {w:World} {Y:Nat->Prop} {v:Value} {gs:List Nat} {l:List PT} (hv:w.ownsRow 0 116 1 v gs.length (bD gs)) (h0:gs=[]->v = .slice none 0 0) (hl:gs.length<=1000) (hT:dN w Y l gs) (hY:∀ k,Y k->k<w.heap.size):
  Calls Tryz.prog 135 #[v] w fun e w'=>rE w Y (rF l) e w':=by
 have H:=aB (KK 2 (Or.inr rfl) hv h0 hl hT hY)
 rw [show B3 2 l=rF l from rfl] at H
 clear hv h0 hT hY
 go_enter Tryz.func135,Tryz.ntmps135
 go_wp2_with fail
 refine (aA H).mono ?_
 rintro e w1 ⟨g,rfl,hg,hT⟩
 go_wp2
 go_ret
 exact ⟨g,rfl,hg,hT⟩
def MF (w:World) (b:Nat) (s:ByteArray) (i:Nat) (r:cN (List PT)) (next:Nat->Nat->cN (List PT)) (need:Nat) (gk:Nat) (vv:Value) (wv:World):Prop:=
 ∃ gs ts j m,wv.ownsRow 0 116 1 vv gs.length (bD gs)/\(gs=[]->vv = .slice none 0 0)/\(∀ k,vv.ownBlock=some k->¬ k<w.heap.size)/\w.grownBy wv (some b)/\
  wv.heap[b]? = some (gF s j)/\dN wv (fun k=>k<w.heap.size\/vv.ownBlock=some k) (uP ts) gs/\r=(next m j).map (ts++·)/\4*(s.size-j)+need<=m/\i<=j/\j<=s.size/\s.size-j<gk/\gs.length<=j
theorem FI {s:ByteArray} {b i0:Nat} (hs:s.size<=120) (hbase:zL s b i0) (w:World) (i:Nat) (h0:i0<=i) (h:w.heap[b]? = some (gF s i)) (hi:i<=s.size) (n:Nat) (hn:4*(s.size-i)+3<=n):
  Calls Tryz.prog 199 #[.pointer (some ⟨b,0,none⟩)] w fun e w'=>uU b s w e w' ((bU s n i).map .seq):=by
 obtain ⟨i1,lW,hz0,hz1,hz2⟩:=info_parts Tryz.infoPtr
 generalize hr:bU s n i=r
 have hbl:=aD h
 have H0:Hid (MF w b s i r (bU s) 3 (s.size-i+1) (.slice none 0 0) w):=by
  refine ⟨[],[],i,n,World.ownsRow_nil _ _ _ _,fun _=>rfl,(by intro k hk;cases hk),World.grownBy.refl _ _,h,by rw [uP,dN];trivial,?_,hn,Nat.le_refl _,hi,by omega,by simp⟩
  rw [hr];cases r <;> rfl
 have HD:=aB hbase
 clear h hr hn hbase
 go_enter Tryz.func199,Tryz.ntmps199
 go_wp2_with fail
 go_loopg [3] (s.size-i+1) (fun gk vv wv=>MF w b s i r (bU s) 3 gk vv wv)
 case atStart=>exact aA H0
 case round=>
  clear H0
  obtain ⟨gs,ts,j,m,hown,hnil,rT,hg,yV,oO,hr,hm,kD,hj,fW,eC⟩:=hrel
  obtain ⟨m,rfl⟩:∃ m',m=m'+1:=⟨m-1,by omega⟩
  obtain ⟨ao,cp,rfl⟩:=aG hown
  have HA:=aB (YZ yV hs hj)
  have HF:=aB (And.intro hown (And.intro hnil (And.intro rT (And.intro hg (And.intro yV (And.intro oO hr))))))
  clear hown hnil rT hg yV oO hr
  cases hat:iK (pk s j) with
  | false=>
   rw [hat] at HA
   have HR:Hid (r = .ok ts j):=by
    show r=_
    rw [(aA HF).2.2.2.2.2.2,bU,if_neg (by simp [hat])]
    simp [cN.map]
   have HW:=aB (fun n1=>RN (w:=wr.drewN n1) (v := .slice ao gs.length cp) (gs:=gs) (Y:=fun k=>k<w.heap.size) (aA HF).1 (aA HF).2.1 (by omega) (dN.kept (w:=wr) (w':=wr.drewN n1) (fun _ _ _=>rfl) (dN.reY (w:=wr) (fun k _ hk=>Or.inl hk) (aA HF).2.2.2.2.2.1)) (fun k hk=>Nat.lt_of_lt_of_le hk (aA HF).2.2.2.1.size))
   clear hat
   go_wp2_with fail
   refine (aA HA).mono ?_
   rintro e w1 ⟨rfl,n1,rfl⟩
   go_wp2_with fail
   refine (aA HW n1).mono ?_
   rintro e w2 ⟨g,rfl,hg2,D9⟩
   go_wp2
   go_ret
   rw [aA HR]
   obtain ⟨hown,hnil,rT,hg,yV,oO,_⟩:=aA HF
   refine ⟨hj,(hg.trans (aN _ n1 _)).andThen hg2 (fun k e=>by cases e),(hg2.block b (aD yV) (by simp)).trans yV,g,rfl,?_⟩
   rw [nf]
   exact D9
  | true=>
   rw [hat] at HA
   have Hat:=aB hat
   have HBs:=aB (fun n1=>aA HD (wr.drewN n1) j (by omega) (aA HF).2.2.2.2.1 hj hat m (by omega))
   clear hat
   go_wp2_with fail
   refine (aA HA).mono ?_
   rintro e w1 ⟨rfl,n1,rfl⟩
   go_wp2_with fail
   refine (aA HBs n1).mono ?_
   rintro e w2 fN
   cases hg:dX s m j with
   | err p=>
    rw [hg] at fN
    obtain ⟨hp,hg2,cH,rfl⟩:=fN
    have HR:Hid (r = .err p):=by
     show r=_
     rw [(aA HF).2.2.2.2.2.2,bU,if_pos (aA Hat),hg]
     rfl
    clear hg HBs HA
    go_wp2
    go_ret
    rw [aA HR]
    exact ⟨hp,((aA HF).2.2.2.1.trans (aN _ _ _)).trans hg2,cH,rfl⟩
   | ok t j2=>
    rw [hg] at fN
    obtain ⟨fR,hg2,cH,g,rfl,hT⟩:=fN
    have hjj:=(OK s m).1 _ _ _ hg
    have HR:Hid (r=(bU s m (gZ s t j2).2).map (fun l=>ts++(gZ s t j2).1::l)):=by
     show r=_
     rw [(aA HF).2.2.2.2.2.2,bU,if_pos (aA Hat),hg]
     simp only [cN.bind,cN.map_map]
    obtain ⟨hown,hnil,rT,yY,yV,oO,_⟩:=aA HF
    have aCM:wr.grownBy w2 (some b):=(aN wr n1 _).trans hg2
    have hws:=aCM.size
    have hT':TR w2 (fun k=>k<wr.heap.size) (nf t) g:=hT
    have HRp:=aB (fun (W:World) (hW:W.heap=w2.heap)=>MX (w:=W) (Y:=fun k=>k<wr.heap.size) (by rw [hW];exact cH) hs fR (TR.kept (fun k _ _=>by rw [hW]) hT') (fun k hk=>by rw [hW];exact Nat.lt_of_lt_of_le hk hws) (by show b<wr.heap.size;have:=yY.size;omega))
    have yU:(Value.slice ao gs.length cp).ownBlock≠some b:=cM yV hown (by decide)
    have hown2:w2.ownsRow 0 116 1 (.slice ao gs.length cp) gs.length (bD gs):=aI hown (fun k e=>bE aCM k (aJ hown k e) (fun e'=>yU (by rw [e,e'])))
    have TX:gs.length+1<=1000:=by omega
    have HK:=aB (And.intro hown2 (And.intro aCM (And.intro hT' cH)))
    clear hg HBs HA hT hT' cH hown yV oO yY hg2 hown2 rT hnil
    go_wp2_with fail
    refine (aA HRp w2 rfl).mono ?_
    rintro e w3 ⟨EJ,hg3,b8,g3,rfl,K4⟩
    have dW:=aI (aA HK).1 (fun k e=>bE hg3 k (aJ (aA HK).1 k e) (fun e'=>yU (by rw [e,e'])))
    have HK3:=aB (And.intro hg3 (And.intro b8 K4))
    clear hg3 b8 K4
    go_wp2_with (at_builtin;refine wpList_append_lies _ rfl (.tmp 11) (.tmp 15) 162 rfl 0 116 i1 _ 1 8 Tryz.underlying162 lW hz0 hz1 hz2 rfl (by decide) (.slice ao gs.length cp) gs.length (bD gs) rfl (dW.alloc _) ⟨w3.heap.size,0,none⟩ 1 1 [.pointer (some ⟨g3,0,none⟩)] rfl rfl (World.news_of_block (cs := #[.pointer (some ⟨g3,0,none⟩)]) (heap_alloc_new w3 _)) (by simp [Value.oneCell']) (by omega) (by unfold maxLen;omega) (by omega) (by omega) (w3.heap.size+1) (by simp) ?_)
    intro g5 cap w5 bB aL bW gH
    go_wp2_with fail
    go_roundg (s.size-j)
    case measure=>exact fW
    case rel=>
     obtain ⟨hown,hnil,rT,yY,yV,oO,_⟩:=aA HF
     obtain ⟨hg3,b8,K4⟩:=aA HK3
     have hgr:wr.grownBy w3 (some b):=(aA HK).2.1.trans hg3
     obtain ⟨k1,k2,k3⟩:=tM (m:=gs.length+1) (cap:=cap) (X:=fun k=>k<w.heap.size) (aJ hown) (fun k hk=>Nat.lt_of_lt_of_le hk yY.size) hbl hgr aL bW
     have hlt:=LM s t j2
     refine ⟨gs++[g3],ts++[(gZ s t j2).1],(gZ s t j2).2,m,by simpa [bD] using bB,(fun e=>by simp at e),p7 rT yY hgr bW,qB rT yY hgr aL,(k3 b (aD b8) yU).trans b8,?_,?_,by omega,by omega,EJ,by omega,by simp;omega⟩
     ·rw [V3,uP,uP]
      exact dN.push (k2 (TR.loc _ _) K4) (k1 (dN.loc _ _) oO)
     ·rw [aA HR]
      simp
theorem BK {s:ByteArray} {b i0:Nat} (hs:s.size<=120) (hbase:zL s b i0):tB s b i0:=by
 intro w i h0 h hi n hn
 obtain ⟨i1,lW,hz0,hz1,hz2⟩:=info_parts Tryz.infoPtr
 generalize hr:cI s n i=r
 have hbl:=aD h
 have H0:Hid (MF w b s i r (cI s) 4 (s.size-i+1) (.slice none 0 0) w):=by
  refine ⟨[],[],i,n,World.ownsRow_nil _ _ _ _,fun _=>rfl,(by intro k hk;cases hk),World.grownBy.refl _ _,h,by rw [uP,dN];trivial,?_,hn,Nat.le_refl _,hi,by omega,by simp⟩
  rw [hr];cases r <;> rfl
 have HD:=aB (fun w i a b c n d=>FI hs hbase w i a b c n d)
 clear h hr hn hbase
 go_enter Tryz.func195,Tryz.ntmps195
 go_wp2_with fail
 go_loopg [3] (s.size-i+1) (fun gk vv wv=>MF w b s i r (cI s) 4 gk vv wv)
 case atStart=>exact aA H0
 case round=>
  clear H0
  obtain ⟨gs,ts,j,m,hown,hnil,rT,hg,yV,oO,hr,hm,kD,hj,fW,eC⟩:=hrel
  obtain ⟨m,rfl⟩:∃ m',m=m'+1:=⟨m-1,by omega⟩
  obtain ⟨ao,cp,rfl⟩:=aG hown
  have HBr:=aB (aA HD wr j (by omega) yV hj m (by omega))
  have HF:=aB (And.intro hown (And.intro hnil (And.intro rT (And.intro hg (And.intro yV (And.intro oO hr))))))
  clear hown hnil rT hg yV oO hr
  go_wp2_with fail
  refine (aA HBr).mono ?_
  rintro e w2 fN
  cases hg:bU s m j with
  | err p=>
   rw [hg] at fN
   obtain ⟨hp,hg2,cH,rfl⟩:=fN
   have HR:Hid (r = .err p):=by
    show r=_
    rw [(aA HF).2.2.2.2.2.2,cI,hg]
    rfl
   clear hg HBr
   go_wp2
   go_ret
   rw [aA HR]
   exact ⟨hp,(aA HF).2.2.2.1.trans hg2,cH,rfl⟩
  | ok t j2=>
   rw [hg] at fN
   obtain ⟨fR,hg2,cH,g,rfl,hT⟩:=fN
   have hjj:=(OK s m).2.1 _ _ _ hg
   have HR:Hid (r=if pk s j2=124 then (cI s m (j2+1)).map (fun l=>ts ++ .seq t::l) else .ok (ts++[.seq t]) j2):=by
    show r=_
    rw [(aA HF).2.2.2.2.2.2,cI,hg]
    simp only [cN.bind]
    split
    ·rw [cN.map_map]
    ·rfl
   obtain ⟨hown,hnil,rT,yY,yV,oO,_⟩:=aA HF
   have hws:=hg2.size
   have yU:(Value.slice ao gs.length cp).ownBlock≠some b:=cM yV hown (by decide)
   have hown2:w2.ownsRow 0 116 1 (.slice ao gs.length cp) gs.length (bD gs):=aI hown (fun k e=>bE hg2 k (aJ hown k e) (fun e'=>yU (by rw [e,e'])))
   have TX:gs.length+1<=1000:=by omega
   have HK:=aB (And.intro hg2 (And.intro hT cH))
   clear hg HBr hT cH hown yV oO yY hg2 rT hnil
   go_wp2_with (at_builtin;refine wpList_append_lies _ rfl (.tmp 9) (.tmp 11) 162 rfl 0 116 i1 _ 1 8 Tryz.underlying162 lW hz0 hz1 hz2 rfl (by decide) (.slice ao gs.length cp) gs.length (bD gs) rfl (hown2.alloc _) ⟨w2.heap.size,0,none⟩ 1 1 [.pointer (some ⟨g,0,none⟩)] rfl rfl (World.news_of_block (cs := #[.pointer (some ⟨g,0,none⟩)]) (heap_alloc_new w2 _)) (by simp [Value.oneCell']) (by omega) (by unfold maxLen;omega) (by omega) (by omega) (w2.heap.size+1) (by simp) ?_)
   intro g5 cap w5 bB aL bW gH
   have HP:Hid (w5.ownsRow 0 116 1 (.slice (some ⟨g5,0,none⟩) (gs.length+1) cap) (gs++[g]).length (bD (gs++[g]))/\(∀ k,(Value.slice (some ⟨g5,0,none⟩) (gs.length+1) cap).ownBlock=some k->¬ k<w.heap.size)/\w.grownBy w5 (some b)/\w5.heap[b]? = some (gF s j2)/\dN w5 (fun k=>k<w.heap.size\/(Value.slice (some ⟨g5,0,none⟩) (gs.length+1) cap).ownBlock=some k) (uP (ts++[.seq t])) (gs++[g])):=by
    obtain ⟨hown,hnil,rT,yY,yV,oO,_⟩:=aA HF
    obtain ⟨hg2,hT,cH⟩:=aA HK
    obtain ⟨k1,k2,k3⟩:=tM (m:=gs.length+1) (cap:=cap) (X:=fun k=>k<w.heap.size) (aJ hown) (fun k hk=>Nat.lt_of_lt_of_le hk yY.size) hbl hg2 aL bW
    refine ⟨by simpa [bD] using bB,p7 rT yY hg2 bW,qB rT yY hg2 aL,(k3 b (aD cH) yU).trans cH,?_⟩
    rw [V3,uP,uP]
    exact dN.push (k2 (TR.loc _ _) hT) (k1 (dN.loc _ _) oO)
   clear bB aL bW hown2 HF HK
   by_cases mF:pk s j2=124
   ·have V9:j2<s.size:=bY (by rw [mF];decide)
    have HT:=aB (pG 124 (aA HP).2.2.2.1 hs V9 mF)
    rw [if_pos mF] at HR
    clear mF
    go_wp2_with fail
    refine (aA HT).mono ?_
    rintro e w6 ⟨rfl,h6,g6⟩
    go_wp2_with fail
    go_roundg (s.size-j)
    case measure=>exact fW
    case rel=>
     obtain ⟨k1,k2,k3,k4,k5⟩:=aA HP
     refine ⟨gs++[g],ts++[.seq t],j2+1,m,aI k1 (fun k e=>bE g6 k (aJ k1 k e) (fun e'=>k2 k e (by omega))),(fun e=>by simp at e),k2,k3.trans g6,h6,dN.kept (fun k hk hz=>bE g6 k hk (fun e=>hz (Or.inl (by omega)))) k5,?_,by omega,by omega,V9,by omega,by simp;omega⟩
     rw [aA HR]
     simp
   ·have HT:=aB (nB 124 (aA HP).2.2.2.1 hs fR mF)
    rw [if_neg mF] at HR
    have HC:=aB (fun n6=>U6 (w:=w5.drewN n6) (v := .slice (some ⟨g5,0,none⟩) (gs.length+1) cap) (gs:=gs++[g]) (l:=uP (ts++[.seq t])) (Y:=fun k=>k<w.heap.size) (aA HP).1 (fun e=>by simp at e) (by simp;omega) (dN.kept (w:=w5) (w':=w5.drewN n6) (fun _ _ _=>rfl) (dN.reY (w:=w5) (fun k _ hk=>Or.inl hk) (aA HP).2.2.2.2)) (fun k hk=>Nat.lt_of_lt_of_le hk (aA HP).2.2.1.size))
    clear mF
    go_wp2_with fail
    refine (aA HT).mono ?_
    rintro e w6 ⟨rfl,n6,rfl⟩
    go_wp2_with fail
    refine (aA HC n6).mono ?_
    rintro e w7 ⟨g7,rfl,EK,hT7⟩
    go_wp2
    go_ret
    rw [aA HR]
    obtain ⟨k1,k2,k3,k4,k5⟩:=aA HP
    refine ⟨fR,(k3.trans (aN _ n6 _)).andThen EK (fun k e=>by cases e),(EK.block b (aD k4) (by simp)).trans k4,g7,rfl,?_⟩
    rw [nf]
    exact hT7
theorem BL {s:ByteArray} {b:Nat} (hs:s.size<=120):∀ d i0,s.size+1-i0<=d->tB s b i0
 | 0,i0,hd=>fun w i h0 _ hi=>by omega
 | d+1,i0,hd=>BK hs (RF hs (BL hs d (i0+1) (by omega)))
theorem RE {s:ByteArray} {b:Nat} (hs:s.size<=120):tB s b 0:=BL hs (s.size+1) 0 (by omega)
def WE (s:ByteArray) (w:World) (e:Ending) (w':World):cN (List PT)->Prop
 | .ok l j=>j<=s.size/\w.grownBy w' none/\∃ g:Nat,e = .returned (.tuple #[.pointer (some ⟨g,0,none⟩),.int .i64 (j:Int)])/\TR w' (fun k=>k<w.heap.size) (nf (.alt l)) g
 | .err p=>p<=s.size/\w.grownBy w' none/\e = .returned (.tuple #[.pointer none,.int .i64 (p:Int)])
theorem aE4 {w:World} {s:ByteArray} {i:Nat} (hs:s.size<=120) (hi:i<=s.size) (n:Nat) (hn:4*(s.size-i)+4<=n):
  Calls Tryz.prog 187 #[.string s,.int .i64 (i:Int)] w fun e w'=>WE s w e w' (cI s n i):=by
 have HP:=aB (RE (b:=w.heap.size) hs (w.alloc (gF s i)) i (Nat.zero_le _) (heap_alloc_new w _) hi n hn)
 generalize hr:cI s n i=r at HP
 clear hr hn
 go_enter Tryz.func187,Tryz.ntmps187
 go_wp2_with fail
 refine (aA HP).mono ?_
 rintro e w1 oV
 cases r with
 | err p=>
  obtain ⟨hp,hg,hq,rfl⟩:=oV
  have c1:=aC hq 1
  simp at c1
  have HG:=aB (And.intro hp hg)
  clear hq hg HP hp
  go_wp2_with fail
  go_region
  all_goals
   go_wp2
   go_ret2
   obtain ⟨hp,hg⟩:=aA HG
   exact ⟨hp,((World.grownBy_alloc w _ none).andThen hg (fun k e=>Or.inl (by cases e;exact Nat.le_refl _))).trans (aU _ _),rfl⟩
 | ok l j=>
  obtain ⟨hj,hg,hq,g,rfl,hT⟩:=oV
  have c1:=aC hq 1
  simp at c1
  have HG:=aB (And.intro hj (And.intro hg hT))
  clear hq hg HP hj hT
  go_wp2_with fail
  go_region
  all_goals
   go_wp2
   go_ret2
   obtain ⟨hj,hg,hT⟩:=aA HG
   refine ⟨hj,((World.grownBy_alloc w _ none).andThen hg (fun k e=>Or.inl (by cases e;exact Nat.le_refl _))).trans (aU _ _),g,rfl,?_⟩
   exact TR.kept (w:=w1) (w':=w1.drew) (fun _ _ _=>rfl) (TR.reY (fun k _ hk=>by simp;omega) hT)
def rG (kind:Int) (pv jv pat:Value) (wr vw df:ByteArray) (at_:Nat):Obj := .cells #[.int .i64 kind,pv,jv,pat,.string wr,.string vw,.string df,.int .i64 (at_:Int)] 118 (0,0)
def qU (kind:Int) (pv jv:Value):Obj:=rG kind pv jv (.pointer none) ⟨#[]⟩ ⟨#[]⟩ ⟨#[]⟩ 0
def LW (w:World) (Y:Nat->Prop) (v:Value) (gs:List Nat):Prop:=w.ownsRow 0 54 1 v gs.length (bD gs)/\∀ k,v.ownBlock=some k->¬ Y k
def JW (w:World) (Y:Nat->Prop) (v:Value) (ps:List Nat):Prop:=w.ownsRow 0 3 1 v ps.length (cG ps)/\∀ k,v.ownBlock=some k->¬ Y k
theorem LW.kept {w w':World} {Y:Nat->Prop} {v:Value} {gs:List Nat} (h:LW w Y v gs) (hk:∀ k,k<w.heap.size->¬ Y k->w'.heap[k]? = w.heap[k]?):LW w' Y v gs:=
 ⟨aI h.1 fun k e=>hk k (aJ h.1 k e) (h.2 k e),h.2⟩
theorem LW.reY {w:World} {Y Z:Nat->Prop} {v:Value} {gs:List Nat} (h:LW w Y v gs) (hZ:∀ k,k<w.heap.size->Z k->Y k):LW w Z v gs:=
 ⟨h.1,fun k e hz=>h.2 k e (hZ k (aJ h.1 k e) hz)⟩
theorem JW.kept {w w':World} {Y:Nat->Prop} {v:Value} {gs:List Nat} (h:JW w Y v gs) (hk:∀ k,k<w.heap.size->¬ Y k->w'.heap[k]? = w.heap[k]?):JW w' Y v gs:=
 ⟨aI h.1 fun k e=>hk k (aJ h.1 k e) (h.2 k e),h.2⟩
theorem JW.reY {w:World} {Y Z:Nat->Prop} {v:Value} {gs:List Nat} (h:JW w Y v gs) (hZ:∀ k,k<w.heap.size->Z k->Y k):JW w Z v gs:=
 ⟨h.1,fun k e hz=>h.2 k e (hZ k (aJ h.1 k e) hz)⟩
section
variable (s:ByteArray)
mutual
def LR (w:World) (Y:Nat->Prop):LT->Nat->Prop
 | .same l i j,g=>¬ Y g/\∃ p,w.heap[g]? = some (rG 0 (.slice none 0 0) (.slice none 0 0) (.pointer (some ⟨p,0,none⟩)) (s.extract i j) ⟨#[]⟩ ⟨#[]⟩ 0)/\TR w Y (nf (.alt l)) p
 | .fixed l i j v d a,g=>¬ Y g/\∃ p,w.heap[g]? = some (rG 1 (.slice none 0 0) (.slice none 0 0) (.pointer (some ⟨p,0,none⟩)) (s.extract i j) (aE v) (aE d) a)/\TR w Y (nf (.alt l)) p
 | .swap at_ a b,g=>¬ Y g/\∃ v jv ga gb,w.heap[g]? = some (qU 2 v jv)/\LW w Y v [ga,gb]/\JW w Y jv [at_]/\LR w Y a ga/\LR w Y b gb
 | .group a,g=>¬ Y g/\∃ v ga,w.heap[g]? = some (qU 3 v (.slice none 0 0))/\LW w Y v [ga]/\LR w Y a ga
 | .many at_ a,g=>¬ Y g/\∃ v jv ga,w.heap[g]? = some (qU 4 v jv)/\LW w Y v [ga]/\JW w Y jv [at_]/\LR w Y a ga
 | .row l ps,g=>¬ Y g/\∃ v jv gs,w.heap[g]? = some (qU 5 v jv)/\LW w Y v gs/\JW w Y jv ps/\eN w Y l gs
 | .choice l ps,g=>¬ Y g/\∃ v jv gs,w.heap[g]? = some (qU 6 v jv)/\LW w Y v gs/\JW w Y jv ps/\eN w Y l gs
def eN (w:World) (Y:Nat->Prop):List LT->List Nat->Prop
 | [],[]=>True
 | t::l,g::gs=>LR w Y t g/\eN w Y l gs
 | _,_=>False
end
variable {s}
mutual
theorem LR.kept {w w':World} {Y:Nat->Prop} (hk:∀ k,k<w.heap.size->¬ Y k->w'.heap[k]? = w.heap[k]?):∀ {t:LT} {g:Nat},LR s w Y t g->LR s w' Y t g
 | .same l i j,g,h=>by
  rw [LR] at *
  obtain ⟨h0,p,h1,h2⟩:=h
  exact ⟨h0,p,(hk g (aD h1) h0).trans h1,h2.kept hk⟩
 | .fixed l i j v d a,g,h=>by
  rw [LR] at *
  obtain ⟨h0,p,h1,h2⟩:=h
  exact ⟨h0,p,(hk g (aD h1) h0).trans h1,h2.kept hk⟩
 | .swap at_ a b,g,h=>by
  rw [LR] at *
  obtain ⟨h0,v,jv,ga,gb,h1,h2,h3,h4,h5⟩:=h
  exact ⟨h0,v,jv,ga,gb,(hk g (aD h1) h0).trans h1,h2.kept hk,h3.kept hk,LR.kept hk h4,LR.kept hk h5⟩
 | .group a,g,h=>by
  rw [LR] at *
  obtain ⟨h0,v,ga,h1,h2,h4⟩:=h
  exact ⟨h0,v,ga,(hk g (aD h1) h0).trans h1,h2.kept hk,LR.kept hk h4⟩
 | .many at_ a,g,h=>by
  rw [LR] at *
  obtain ⟨h0,v,jv,ga,h1,h2,h3,h4⟩:=h
  exact ⟨h0,v,jv,ga,(hk g (aD h1) h0).trans h1,h2.kept hk,h3.kept hk,LR.kept hk h4⟩
 | .row l ps,g,h=>by
  rw [LR] at *
  obtain ⟨h0,v,jv,gs,h1,h2,h3,h4⟩:=h
  exact ⟨h0,v,jv,gs,(hk g (aD h1) h0).trans h1,h2.kept hk,h3.kept hk,eN.kept hk h4⟩
 | .choice l ps,g,h=>by
  rw [LR] at *
  obtain ⟨h0,v,jv,gs,h1,h2,h3,h4⟩:=h
  exact ⟨h0,v,jv,gs,(hk g (aD h1) h0).trans h1,h2.kept hk,h3.kept hk,eN.kept hk h4⟩
theorem eN.kept {w w':World} {Y:Nat->Prop} (hk:∀ k,k<w.heap.size->¬ Y k->w'.heap[k]? = w.heap[k]?):∀ {l:List LT} {gs:List Nat},eN s w Y l gs->eN s w' Y l gs
 | [],[],_=>by rw [eN];trivial
 | t::l,g::gs,h=>by rw [eN] at *;exact ⟨LR.kept hk h.1,eN.kept hk h.2⟩
 | [],k::ks,h=>by simp [eN] at h
 | t::l,[],h=>by simp [eN] at h
end
mutual
theorem LR.reY {w:World} {Y Z:Nat->Prop} (hZ:∀ k,k<w.heap.size->Z k->Y k):∀ {t:LT} {g:Nat},LR s w Y t g->LR s w Z t g
 | .same l i j,g,h=>by
  rw [LR] at *
  obtain ⟨h0,p,h1,h2⟩:=h
  exact ⟨fun hz=>h0 (hZ g (aD h1) hz),p,h1,h2.reY hZ⟩
 | .fixed l i j v d a,g,h=>by
  rw [LR] at *
  obtain ⟨h0,p,h1,h2⟩:=h
  exact ⟨fun hz=>h0 (hZ g (aD h1) hz),p,h1,h2.reY hZ⟩
 | .swap at_ a b,g,h=>by
  rw [LR] at *
  obtain ⟨h0,v,jv,ga,gb,h1,h2,h3,h4,h5⟩:=h
  exact ⟨fun hz=>h0 (hZ g (aD h1) hz),v,jv,ga,gb,h1,h2.reY hZ,h3.reY hZ,LR.reY hZ h4,LR.reY hZ h5⟩
 | .group a,g,h=>by
  rw [LR] at *
  obtain ⟨h0,v,ga,h1,h2,h4⟩:=h
  exact ⟨fun hz=>h0 (hZ g (aD h1) hz),v,ga,h1,h2.reY hZ,LR.reY hZ h4⟩
 | .many at_ a,g,h=>by
  rw [LR] at *
  obtain ⟨h0,v,jv,ga,h1,h2,h3,h4⟩:=h
  exact ⟨fun hz=>h0 (hZ g (aD h1) hz),v,jv,ga,h1,h2.reY hZ,h3.reY hZ,LR.reY hZ h4⟩
 | .row l ps,g,h=>by
  rw [LR] at *
  obtain ⟨h0,v,jv,gs,h1,h2,h3,h4⟩:=h
  exact ⟨fun hz=>h0 (hZ g (aD h1) hz),v,jv,gs,h1,h2.reY hZ,h3.reY hZ,eN.reY hZ h4⟩
 | .choice l ps,g,h=>by
  rw [LR] at *
  obtain ⟨h0,v,jv,gs,h1,h2,h3,h4⟩:=h
  exact ⟨fun hz=>h0 (hZ g (aD h1) hz),v,jv,gs,h1,h2.reY hZ,h3.reY hZ,eN.reY hZ h4⟩
theorem eN.reY {w:World} {Y Z:Nat->Prop} (hZ:∀ k,k<w.heap.size->Z k->Y k):∀ {l:List LT} {gs:List Nat},eN s w Y l gs->eN s w Z l gs
 | [],[],_=>by rw [eN];trivial
 | t::l,g::gs,h=>by rw [eN] at *;exact ⟨LR.reY hZ h.1,eN.reY hZ h.2⟩
 | [],k::ks,h=>by simp [eN] at h
 | t::l,[],h=>by simp [eN] at h
end
theorem eN.push {w:World} {Y:Nat->Prop} {t:LT} {g:Nat} (ht:LR s w Y t g):∀ {l:List LT} {gs:List Nat},eN s w Y l gs->eN s w Y (l++[t]) (gs++[g])
 | [],[],_=>by rw [List.nil_append,List.nil_append,eN,eN];exact ⟨ht,trivial⟩
 | u::l,k::gs,h=>by rw [List.cons_append,List.cons_append,eN] at *;exact ⟨h.1,eN.push ht h.2⟩
 | [],k::ks,h=>by simp [eN] at h
 | t::l,[],h=>by simp [eN] at h
theorem eN.len {w:World} {Y:Nat->Prop}:∀ {l:List LT} {gs:List Nat},eN s w Y l gs->gs.length=l.length
 | [],[],_=>rfl
 | u::l,k::gs,h=>by rw [eN] at h;simp [eN.len h.2]
 | [],k::ks,h=>by simp [eN] at h
 | t::l,[],h=>by simp [eN] at h
end
def nV (b:Nat) (s:ByteArray) (w:World) (e:Ending) (w':World):cN LT->Prop
 | .ok t j=>j<=s.size/\w.grownBy w' (some b)/\w'.heap[b]? = some (eL s j)/\∃ g,e = .returned (.pointer (some ⟨g,0,none⟩))/\LR s w' (fun k=>k<w.heap.size) t g
 | .err p=>p<=s.size/\w.grownBy w' (some b)/\w'.heap[b]? = some (eL s p)/\e = .returned (.pointer none)
theorem nV.from_ {b:Nat} {s:ByteArray} {w w1:World} {e:Ending} {w':World} {r:cN LT} (hg:w.grownBy w1 (some b)) (h:nV b s w1 e w' r):nV b s w e w' r:=by
 cases r with
 | ok t j=>
  obtain ⟨h1,h2,h3,g,h4,h5⟩:=h
  exact ⟨h1,hg.trans h2,h3,g,h4,LR.reY (fun k _ hk=>Nat.lt_of_lt_of_le hk hg.size) h5⟩
 | err p=>
  obtain ⟨h1,h2,h3,h4⟩:=h
  exact ⟨h1,hg.trans h2,h3,h4⟩
theorem eQ {s:ByteArray} {i:Nat} {c:Int} (hc:0<c):pe s i=c↔pk s i=c:=by
 unfold pe
 split
 ·exact Iff.rfl
 ·have:pk s i=0:=by simp [pk];omega
  rw [this]
  omega
theorem mY (s:ByteArray) (i:Nat) (hi:i<=s.size):aF s (aF s i)=aF s i:=by
 by_cases hb:jR (pk s (aF s i))=true
 ·exfalso
  have key:∀ n i,i+n=s.size->jR (pk s (rY s n i))=false:=by
   intro n
   induction n with
   | zero=>intro i h;rw [rY];have:pk s i=0:=(by simp [pk];omega);rw [this];rfl
   | succ n ih=>
    intro i h
    rw [rY]
    split
    ·exact ih (i+1) (by omega)
    ·rename_i h2
     simpa using h2
  have:=key (s.size-i) i (by omega)
  rw [aF] at hb
  rw [this] at hb
  cases hb
 ·exact pV s _ (by simpa using hb)
def aDM (b:Nat) (s:ByteArray) (w:World) (a:Nat) (e:Ending) (w':World):cN (List UInt8)->Prop
 | .ok l j=>j<=s.size/\w.grownBy w' (some b)/\w'.heap[b]? = some (eL s j)/\e = .returned (.tuple #[.string (aE l),.int .i64 (a:Int),.bool true])
 | .err p=>p<=s.size/\w.grownBy w' (some b)/\w'.heap[b]? = some (eL s p)/\∃ x y,e = .returned (.tuple #[.string x,.int .i64 y,.bool false])
theorem aBS {w:World} {b:Nat} {s:ByteArray} {i:Nat} (h:w.heap[b]? = some (eL s i)) (j:Nat):(w.setCell ⟨b,1,none⟩ (.int .i64 (j:Int))).heap[b]? = some (eL s j):=by
 have:=aK h 1 (.int .i64 (j:Int))
 simpa [eL] using this
theorem KA {w:World} {b:Nat} {s:ByteArray} {i:Nat} (h:w.heap[b]? = some (eL s i)) (hs:s.size<=120) (hi:i<=s.size):
  Calls Tryz.prog 196 #[.pointer (some ⟨b,0,none⟩)] w fun e w'=>aDM b s w (aF s i) e w' (bN s (aF s i)):=by
 have fQ:=(dK s i hi).2
 by_cases kR:pk s (aF s i)=34
 ·have hlt:aF s i<s.size:=bY (by rw [kR];decide)
  have HT:=aB (iN 34 (by decide) (by decide) h hs hi ((eQ (by decide)).2 kR))
  have HR:Hid (bN s (aF s i)=if pk s (dL s (aF s i+1))=34 then .ok (fP s.data.toList (aF s i+1) (dL s (aF s i+1))) (dL s (aF s i+1)+1) else .err (dL s (aF s i+1))):=by
   show _=_
   rw [bN,if_pos kR]
  rw [aA HR]
  clear HR h kR
  generalize aF s i=a at *
  generalize hen:dL s (a+1)=en
  have Hen:=aB hen
  clear hen
  generalize dF:(if pk s en=34 then cN.ok (fP s.data.toList (a+1) en) (en+1) else cN.err en)=rr
  have QF:=aB dF
  clear dF
  go_enter Tryz.func196,Tryz.ntmps196
  go_wp2_with fail
  refine (aA HT).mono ?_
  rintro e w1 ⟨rfl,h1,g1⟩
  have c1:=aC h1 1
  simp at c1
  have HB:=aB (And.intro h1 g1)
  clear h1 g1
  go_wp2_with fail
  go_loopg [14] (s.size-a) (fun k _ wv=>∃ j,a+1<=j/\j<=s.size/\s.size-j<=k/\dL s j=en/\wv.heap[b]? = some (eL s j)/\w.grownBy wv (some b))
  case atStart=>exact ⟨a+1,Nat.le_refl _,hlt,by omega,aA Hen,(aA HB).1,(aA HB).2⟩
  case round=>
   obtain ⟨j,haj,hj,hk,hsk,hb,hg⟩:=hrel
   have HI:=aB (And.intro hk (And.intro hsk (And.intro hb hg)))
   have c0:=aC hb 0
   have d1:=aC hb 1
   have fz:=aM hb 1
   clear hk hsk hb hg c1
   simp at c0 d1
   by_cases aCC:j<s.size
   ·have hd:(j:Int)<(s.size:Int):=by omega
    have C7:pk s j=(s[j].toNat:Int):=by simp [pk,aCC]
    have uD:0<=(s[j].toNat:Int)/\(s[j].toNat:Int)<=255:=by rw [← C7];exact O8 s j
    have HC:=aB (fun W:World=>qG (s[j].toNat:Int) uD.1 uD.2 W)
    cases gE:bG (pk s j) with
    | true=>
     have HS:Hid (bG (s[j].toNat:Int)=true):=by rw [← C7];exact gE
     rw [aA HS] at HC
     have Hsg:=aB gE
     clear C7 gE HS uD
     go_wp2_with fail
     go_quiet (first | (go_at_call 201;refine Calls.quiet_of_same (aA HC _)))
     go_wp2_with fail
     go_roundg (gk-1)
     case measure=>have:=(aA HI).1;omega
     case rel=>
      obtain ⟨hk,hsk,hb,hg⟩:=aA HI
      refine ⟨j+1,by omega,by omega,by omega,?_,?_,?_⟩
      ·rw [← hsk,zV s j aCC (aA Hsg)]
      ·have h1:=aBS (w:=wr.drewN nq) hb (j+1)
       simpa using h1
      ·exact (hg.trans (aN _ nq _)).trans (aT _ _ _ _)
    | false=>
     have HS:Hid (bG (s[j].toNat:Int)=false):=by rw [← C7];exact gE
     rw [aA HS] at HC
     have hen:en=j:=by rw [← (aA HI).2.1];exact rZ s j gE
     clear C7 gE HS uD
     subst hen
     go_wp2_with fail
     go_quiet (first | (go_at_call 201;refine Calls.quiet_of_same (aA HC _)))
     have hb1:(a:Int)+1<=(en:Int):=by omega
     have hb2:(en:Int)<=(s.size:Int):=by omega
     go_wp2_with fail
     go_quiet (fail)
     by_cases kR:pk s en=34
     ·have W8:en<s.size:=bY (by rw [kR];decide)
      have HCl:=aB (fun n=>yJ (w:=wr.drewN n) 34 (by decide) (aA HI).2.2.1 hs hj ((eQ (by decide)).2 kR))
      have H34:=aB kR
      clear kR
      go_wp2_with fail
      refine (aA HCl _).mono ?_
      rintro e w5 ⟨rfl,h5,g5⟩
      go_wp2
      go_ret3
      rw [← aA QF,if_pos (aA H34)]
      refine ⟨W8,((aA HI).2.2.2.trans (aN _ _ _)).trans g5,h5,?_⟩
      rw [jI]
      simp
     ·have HCl:=aB (fun n=>yK (w:=wr.drewN n) 34 (aA HI).2.2.1 hs hj (fun e=>kR ((eQ (by decide)).1 e)))
      have H34:=aB kR
      clear kR
      go_wp2_with fail
      refine (aA HCl _).mono ?_
      rintro e w5 ⟨rfl,n5,rfl⟩
      go_wp2
      go_ret3
      rw [← aA QF,if_neg (aA H34)]
      exact ⟨hj,(aA HI).2.2.2.trans (aN _ _ _),(aA HI).2.2.1,_,_,rfl⟩
   ·have hd:decide ((j:Int)<(s.size:Int))=false:=by simp;omega
    have hen:en=j:=by rw [← (aA HI).2.1];exact rZ s j (by simp [pk,aCC];rfl)
    subst hen
    go_wp2_with fail
    go_quiet (fail)
    have hb1:(a:Int)+1<=(en:Int):=by omega
    have hb2:(en:Int)<=(s.size:Int):=by omega
    go_wp2_with fail
    go_quiet (fail)
    by_cases kR:pk s en=34
    ·have W8:en<s.size:=bY (by rw [kR];decide)
     have HCl:=aB (fun n=>yJ (w:=wr.drewN n) 34 (by decide) (aA HI).2.2.1 hs hj ((eQ (by decide)).2 kR))
     have H34:=aB kR
     clear kR
     go_wp2_with fail
     refine (aA HCl _).mono ?_
     rintro e w5 ⟨rfl,h5,g5⟩
     go_wp2
     go_ret3
     rw [← aA QF,if_pos (aA H34)]
     refine ⟨W8,((aA HI).2.2.2.trans (aN _ _ _)).trans g5,h5,?_⟩
     rw [jI]
     simp
    ·have HCl:=aB (fun n=>yK (w:=wr.drewN n) 34 (aA HI).2.2.1 hs hj (fun e=>kR ((eQ (by decide)).1 e)))
     have H34:=aB kR
     clear kR
     go_wp2_with fail
     refine (aA HCl _).mono ?_
     rintro e w5 ⟨rfl,n5,rfl⟩
     go_wp2
     go_ret3
     rw [← aA QF,if_neg (aA H34)]
     exact ⟨hj,(aA HI).2.2.2.trans (aN _ _ _),(aA HI).2.2.1,_,_,rfl⟩
 ·have HT:=aB (iO 34 (by decide) (by decide) h hs hi (fun e=>kR ((eQ (by decide)).1 e)))
  have HR:Hid (bN s (aF s i) = .err (aF s i)):=by
   show _=_
   rw [bN,if_neg kR]
  clear h kR
  go_enter Tryz.func196,Tryz.ntmps196
  go_wp2_with fail
  refine (aA HT).mono ?_
  rintro e w1 ⟨rfl,h1,g1⟩
  go_wp2
  go_ret3
  rw [aA HR]
  exact ⟨fQ,g1,h1,_,_,rfl⟩
def G5 (s:ByteArray) (l:List PT) (i0 j0 i:Nat):cN LT:=
 (bN s (aF s i)).bind fun v k=>(bN s (aF s k)).bind fun d m => .ok (.fixed l i0 j0 v d (aF s k)) m
theorem GD {w:World} {g p:Nat} {wr vw df:ByteArray} {at_:Nat} (h:w.heap[g]? = some (rG 0 (.slice none 0 0) (.slice none 0 0) (.pointer (some ⟨p,0,none⟩)) wr ⟨#[]⟩ ⟨#[]⟩ 0)):
  ((((w.setCell ⟨g,0,none⟩ (.int .i64 1)).setCell ⟨g,5,none⟩ (.string vw)).setCell ⟨g,6,none⟩ (.string df)).setCell ⟨g,7,none⟩ (.int .i64 (at_:Int))).heap[g]? = some (rG 1 (.slice none 0 0) (.slice none 0 0) (.pointer (some ⟨p,0,none⟩)) wr vw df at_):=by
 have h1:=aK h 0 (.int .i64 1)
 have h2:=aK h1 5 (.string vw)
 have h3:=aK h2 6 (.string df)
 have h4:=aK h3 7 (.int .i64 (at_:Int))
 simpa [rG] using h4
theorem aBV {w0 w:World} {b g p:Nat} {s:ByteArray} {i i0 j0:Nat} {l:List PT} (hg0:w0.grownBy w (some b)) (hb0:b<w0.heap.size) (hgp:w0.heap.size<=g) (h:w.heap[b]? = some (eL s i)) (hs:s.size<=120) (hi:i<=s.size)
  (hp:w.heap[g]? = some (rG 0 (.slice none 0 0) (.slice none 0 0) (.pointer (some ⟨p,0,none⟩)) (s.extract i0 j0) ⟨#[]⟩ ⟨#[]⟩ 0)) (hT:TR w (fun k=>k<w0.heap.size\/k=g) (nf (.alt l)) p):
  Calls Tryz.prog 189 #[.pointer (some ⟨b,0,none⟩),.pointer (some ⟨g,0,none⟩)] w fun e w'=>nV b s w0 e w' (G5 s l i0 j0 i):=by
 have HQ:=aB (KA h hs hi)
 have HP:=aB (And.intro hg0 (And.intro hp hT))
 generalize dF:G5 s l i0 j0 i=rr
 unfold G5 at dF
 clear h hg0 hp hT
 go_enter Tryz.func189,Tryz.ntmps189
 go_wp2_with fail
 refine (aA HQ).mono ?_
 rintro e w1 oV
 cases hq:bN s (aF s i) with
 | err p1=>
  rw [hq] at oV dF
  obtain ⟨h1,h2,h3,x,y,rfl⟩:=oV
  have HR:=aB dF
  clear dF hq HQ
  go_wp2
  go_ret
  rw [← aA HR]
  exact ⟨h1,(aA HP).1.trans h2,h3,rfl⟩
 | ok v k=>
  rw [hq] at oV dF
  obtain ⟨h1,h2,h3,rfl⟩:=oV
  simp only [cN.bind] at dF
  have HQ2:=aB (KA h3 hs h1)
  have HW1:=aB h2
  clear hq HQ h2 h3
  go_wp2_with fail
  refine (aA HQ2).mono ?_
  rintro e w2 fN
  cases hq:bN s (aF s k) with
  | err p1=>
   rw [hq] at fN dF
   obtain ⟨h1,h2,h3,x,y,rfl⟩:=fN
   have HR:=aB dF
   clear dF hq HQ2
   go_wp2
   go_ret
   rw [← aA HR]
   exact ⟨h1,((aA HP).1.trans (aA HW1)).trans h2,h3,rfl⟩
  | ok d m=>
   rw [hq] at fN dF
   obtain ⟨h1,h2,h3,rfl⟩:=fN
   simp only at dF
   have GV:=(aA HW1).trans h2
   have eG:w2.heap[g]? = some (rG 0 (.slice none 0 0) (.slice none 0 0) (.pointer (some ⟨p,0,none⟩)) (s.extract i0 j0) ⟨#[]⟩ ⟨#[]⟩ 0):=(bE GV g (aD (aA HP).2.1) (by omega)).trans (aA HP).2.1
   have HR:=aB dF
   have HW2:=aB (And.intro h3 (And.intro GV eG))
   have c0:=aC eG 0
   have c5:=aC eG 5
   have c6:=aC eG 6
   have c7:=aC eG 7
   simp at c0 c5 c6 c7
   have f0:=aM eG 0
   have f5:=aM eG 5
   have f6:=aM eG 6
   have f7:=aM eG 7
   clear dF hq HQ2 h2 h3 eG GV
   go_wp2
   go_ret
   rw [← aA HR]
   obtain ⟨h3,GV,eG⟩:=aA HW2
   obtain ⟨hg0,hp,hT⟩:=aA HP
   have k1:=GD (vw:=aE v) (df:=aE d) (at_:=aF s k) eG
   have sJ:w2.grownBy ((((w2.setCell ⟨g,0,none⟩ (.int .i64 1)).setCell ⟨g,5,none⟩ (.string (aE v))).setCell ⟨g,6,none⟩ (.string (aE d))).setCell ⟨g,7,none⟩ (.int .i64 ((aF s k:Nat):Int))) (some g):=
    (((aT _ _ _ _).trans (aT _ _ _ _)).trans (aT _ _ _ _)).trans (aT _ _ _ _)
   refine ⟨h1,(hg0.trans GV).andThen sJ (fun k e=>Or.inl (by cases e;exact hgp)),(bE sJ b (aD h3) (by omega)).trans h3,g,rfl,?_⟩
   rw [LR]
   refine ⟨by omega,p,k1,?_⟩
   refine TR.reY (fun k _ hk=>Or.inl hk) (TR.kept (fun k hk hz=>?_) hT)
   rw [bE sJ k (Nat.lt_of_lt_of_le hk GV.size) (fun e=>hz (Or.inr e))]
   exact bE GV k hk (fun e=>hz (Or.inl (by omega)))
theorem nV.ptr {b:Nat} {s:ByteArray} {w w':World} {e:Ending} {r:cN LT} (h:nV b s w e w' r):∃ a,e = .returned (.pointer a):=by
 cases r with
 | ok t j=>obtain ⟨_,_,_,g,he,_⟩:=h;exact ⟨_,he⟩
 | err p=>exact ⟨_,h.2.2.2⟩
theorem OO (s:ByteArray) (n i:Nat):eY s n i=(cI s n (i+1)).bind fun l j=>if pk s j=47 then (if pk s (aF s (j+1))=34 then G5 s l i (j+1) (j+1) else .ok (.same l i (j+1)) (aF s (j+1))) else .err j:=rfl
theorem QM {w:World} {b:Nat} {s:ByteArray} {i:Nat} (h:w.heap[b]? = some (eL s (i+1))) (hs:s.size<=120) (hi:i+1<=s.size):
  Calls Tryz.prog 175 #[.pointer (some ⟨b,0,none⟩)] w fun e w'=>nV b s w e w' (eY s (4*s.size+4) i):=by
 have HR:=aB (fun W:World=>aE4 (w:=W) hs hi (4*s.size+4) (by omega))
 have c0:=aC h 0
 have c1:=aC h 1
 have f1:=aM h 1
 simp at c0 c1
 have hbl:=aD h
 have HB:=aB h
 generalize dF:eY s (4*s.size+4) i=rr
 rw [OO] at dF
 clear h
 cases hg:cI s (4*s.size+4) (i+1) with
 | err p=>
  rw [hg] at HR dF
  have QF:=aB dF
  clear hg dF
  go_enter Tryz.func175,Tryz.ntmps175
  go_wp2_with fail
  go_region_law (go_simp;go_at_call 187;refine (aA HR _).mono ?_;rintro e w1 ⟨hp,hg1,rfl⟩;have hb1:=(hg1.block b hbl (by simp)).trans (aA HB);have c11:=aC hb1 1;simp at c11;have f11:=aM hb1 1)
  all_goals
   go_wp2
   go_ret
   rw [← aA QF]
   refine ⟨hp,((aU w (some b)).andThen hg1 (fun k e=>by cases e)).trans (aT _ _ _ _),aBS hb1 p,rfl⟩
 | ok l j=>
  rw [hg] at HR dF
  have hlt:=(OK s _).2.2 _ _ _ hg
  simp only [cN.bind] at dF
  clear hg
  go_enter Tryz.func175,Tryz.ntmps175
  go_wp2_with fail
  go_region_law (go_simp;go_at_call 187;refine (aA HR _).mono ?_;rintro e w1 ⟨hj,hg1,p,rfl,vR⟩;have hb1:=(hg1.block b hbl (by simp)).trans (aA HB);have c11:=aC hb1 1;simp at c11;have f11:=aM hb1 1)
  all_goals
   have hb2:=aBS hb1 j
   have hg2:w.grownBy (w1.setCell ⟨b,1,none⟩ (.int .i64 (j:Int))) (some b):=((aU w (some b)).andThen hg1 (fun k e=>by cases e)).trans (aT _ _ _ _)
   have D9:TR (w1.setCell ⟨b,1,none⟩ (.int .i64 (j:Int))) (fun k=>k<w.heap.size) (nf (.alt l)) p:=TR.kept (fun k hk hz=>Below.heap_setCell _ _ _ _ (fun e=>hz (by show k<w.heap.size;simp at e;omega))) vR
   by_cases rO:pk s j=47
   ·have jG:j<s.size:=bY (by rw [rO];decide)
    have HCl:=aB (yJ 47 (by decide) hb2 hs hj ((eQ (by decide)).2 rO))
    rw [if_pos rO] at dF
    have HG:=aB (And.intro hg2 D9)
    clear rO hb2 hg2 D9 vR hg1 hb1
    go_wp2_with fail
    refine (aA HCl).mono ?_
    rintro e w3 ⟨rfl,hb3,hg3⟩
    have d0:=aC hb3 0
    have d1:=aC hb3 1
    simp at d0 d1
    have HB3:=aB (And.intro hb3 hg3)
    clear hb3 hg3
    have hb1:(i:Int)<=(j:Int)+1:=by omega
    have hb2:(j:Int)+1<=(s.size:Int):=by omega
    have hb4:(w3.alloc (rG 0 (.slice none 0 0) (.slice none 0 0) (.pointer (some ⟨p,0,none⟩)) (s.extract i (j+1)) ⟨#[]⟩ ⟨#[]⟩ 0)).drew.heap[b]? = some (eL s (j+1)):=heap_alloc_old _ (aA HB3).1
    have hg4:w.grownBy (w3.alloc (rG 0 (.slice none 0 0) (.slice none 0 0) (.pointer (some ⟨p,0,none⟩)) (s.extract i (j+1)) ⟨#[]⟩ ⟨#[]⟩ 0)).drew (some b):=(((aA HG).1.trans (aA HB3).2).trans (World.grownBy_alloc _ _ _)).trans (aU _ _)
    have XU:TR (w3.alloc (rG 0 (.slice none 0 0) (.slice none 0 0) (.pointer (some ⟨p,0,none⟩)) (s.extract i (j+1)) ⟨#[]⟩ ⟨#[]⟩ 0)).drew (fun k=>k<w.heap.size\/k=w3.heap.size) (nf (.alt l)) p:=by
     have hs3:=(aA HB3).2.size
     refine TR.kept (fun k hk hz=>?_) (TR.reY (Z:=fun k=>k<w.heap.size\/k=w3.heap.size) (fun k hk hz=>hz.elim id (fun e=>by omega)) (aA HG).2)
     exact (Below.heap_alloc w3 _ k (Nat.lt_of_lt_of_le hk hs3)).trans (bE (aA HB3).2 k hk (fun e=>hz (Or.inl (by omega))))
    have D0:(w3.alloc (rG 0 (.slice none 0 0) (.slice none 0 0) (.pointer (some ⟨p,0,none⟩)) (s.extract i (j+1)) ⟨#[]⟩ ⟨#[]⟩ 0)).drew.heap[w3.heap.size]? = some (rG 0 (.slice none 0 0) (.slice none 0 0) (.pointer (some ⟨p,0,none⟩)) (s.extract i (j+1)) ⟨#[]⟩ ⟨#[]⟩ 0):=heap_alloc_new w3 _
    have hws:w.heap.size<=w3.heap.size:=Nat.le_trans (aA HG).1.size (aA HB3).2.size
    have HPk:=aB (AZ hb4 hs jG)
    have H4:=aB (And.intro hg4 (And.intro XU D0))
    have hsk:=(dK s (j+1) jG).2
    have Hid1:=aB (mY s (j+1) jG)
    clear hb4 hg4 XU D0 HB3 HG HCl
    by_cases kR:pk s (aF s (j+1))=34
    ·have hq:(pe s (aF s (j+1))==34)=true:=by rw [beq_iff_eq];exact (eQ (by decide)).2 kR
     rw [if_pos kR] at dF
     have QF:=aB dF
     clear kR dF
     generalize pe s (aF s (j+1))=a at *
     generalize aEI:aF s (j+1)=sk at *
     have Hsk:=aB aEI
     clear aEI
     go_wp2_with fail
     go_region
     all_goals
      go_wp2_with fail
      refine (aA HPk).mono ?_
      rintro e w5 ⟨rfl,rB,lN⟩
      obtain ⟨hg4,XU,D0⟩:=aA H4
      have HF:=aB (aBV (hg4.trans lN) hbl hws rB hs hsk ((bE lN _ (aD D0) (by omega)).trans D0) (TR.kept (fun k hk hz=>bE lN k hk (fun e=>hz (Or.inl (by omega)))) XU))
      clear hg4 XU D0 rB lN
      go_wp2_with fail
      refine (aA HF).mono ?_
      rintro e w6 XV
      obtain ⟨a6,rfl⟩:=XV.ptr
      have HP6:=aB XV
      clear XV
      go_wp2
      go_ret
      rw [← aA QF]
      have hx:=aA HP6
      unfold G5 at hx ⊢
      rw [aA Hid1] at hx
      rw [aA Hsk]
      exact hx
    ·have hq:(pe s (aF s (j+1))==34)=false:=by rw [beq_eq_false_iff_ne];exact fun e=>kR ((eQ (by decide)).1 e)
     rw [if_neg kR] at dF
     have QF:=aB dF
     clear kR dF
     generalize pe s (aF s (j+1))=a at *
     generalize aF s (j+1)=sk at *
     go_wp2_with fail
     go_region
     all_goals
      go_wp2_with fail
      refine (aA HPk).mono ?_
      rintro e w5 ⟨rfl,rB,lN⟩
      go_wp2
      go_ret
      rw [← aA QF]
      obtain ⟨hg4,XU,D0⟩:=aA H4
      refine ⟨hsk,hg4.trans lN,rB,w3.heap.size,rfl,?_⟩
      rw [LR]
      exact ⟨by omega,p,(bE lN _ (aD D0) (by omega)).trans D0,TR.reY (fun k _ hk=>Or.inl hk) (TR.kept (fun k hk hz=>bE lN k hk (fun e=>hz (Or.inl (by omega)))) XU)⟩
   ·have HCl:=aB (yK 47 hb2 hs hj (fun e=>rO ((eQ (by decide)).1 e)))
    rw [if_neg rO] at dF
    have HG:=aB (And.intro hb2 hg2)
    have QF:=aB dF
    clear rO hb2 hg2 D9 vR hg1 hb1 dF
    go_wp2_with fail
    refine (aA HCl).mono ?_
    rintro e w3 ⟨rfl,n3,rfl⟩
    go_wp2
    go_ret
    rw [← aA QF]
    exact ⟨hj,(aA HG).2.trans (aN _ _ _),(aA HG).1,rfl⟩
end Go.Proofs.YtlljggefbngkeaaGreatDoor
