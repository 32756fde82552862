import Derived.Test.YtlljggefbngkeaaGreatDoorU28
import Derived.Laws.IdiomStrings
set_option maxRecDepth 100000
set_option maxHeartbeats 3200000
namespace Go.Proofs.YtlljggefbngkeaaGreatDoor
open Go.RowKit
theorem Tryz.infoByte:(Tryz.prog.info? 5).map (fun i=>(i.zero,i.size,i.bytes))=some (some (.int .u8 0),1,1):=by kernel_rfl
def TxI (F:List cA) (gate beh:Nat) (s0:P3) (N:Nat) (w:World) (u:List UInt8) (v:Value) (l:List UInt8):Prop:=
 (v = .pointer none/\u=l.reverse)\/∃ g pr u',v = .pointer (some ⟨g,0,none⟩)/\VR F gate beh s0 N w g pr u'/\u=u'++l.reverse
def ptN:Value->Nat
 | .pointer (some a)=>a.block+1
 | _=>0
theorem VL {w:World} {ao:Option Addr} {cp:Nat} {l:List UInt8} (h:w.ownsRow 0 5 1 (.slice ao l.length cp) l.length (kS l)):(convert 96 9 (.slice ao l.length cp)).run Tryz.prog w = .ok (.string (aE l)) w:=by
 rcases Nat.eq_zero_or_pos l.length with h0 | h0
 ·have hl:=List.length_eq_zero_iff.1 h0
  subst hl
  rcases h.2 with ⟨h',_⟩ | ⟨g,cap,cur,h',_⟩
  ·simp at h'
   obtain ⟨rfl,rfl⟩:=h'
   rw [run_convert_bytes_nil w 96 5 Tryz.underlying96 Tryz.underlying5 _ _ _ Tryz.underlying9]
   rfl
  ·simp at h'
   obtain ⟨rfl,rfl⟩:=h'
   exact run_convert_bytes_back w 96 9 5 ⟨g,0,none⟩ _ [] Tryz.underlying96 Tryz.underlying5 Tryz.underlying9 (fun j hj=>absurd hj (Nat.not_lt_zero _))
 ·obtain ⟨vb,cap,fM,_,dB⟩:=h.form h0
  injection fM with hao _ nY
  subst hao
  subst nY
  refine run_convert_bytes_back w 96 9 5 ⟨vb,0,none⟩ _ l Tryz.underlying96 Tryz.underlying5 Tryz.underlying9 (fun j hj=>?_)
  have:=h.cellAt j (by omega)
  simp [kS,hj] at this
  rw [Addr.add_lit,Nat.zero_add]
  exact this
theorem aDY {F:List cA} {gate beh:Nat} {s0:P3} {N:Nat} {w:World} {g:Nat} {pr:P3} {u:List UInt8} (h:VR F gate beh s0 N w g pr u) (hu:u.length<=100000000000000):
  Calls Tryz.prog 170 #[.pointer (some ⟨g,0,none⟩)] w fun e w'=>e = .returned (.string (aE u))/\w.grownBy w' none:=by
 obtain ⟨i0,jO,hz0,hz1,hz2⟩:=info_parts Tryz.infoByte
 have H0:Hid (TxI F gate beh s0 N w u (.pointer (some ⟨g,0,none⟩)) []):=aB (.inr ⟨g,pr,u,rfl,h,by simp⟩)
 clear h
 go_enter Tryz.func170,Tryz.ntmps170
 go_wp2_with fail
 go_loopg [0,3] (g+2) (fun gk v0 v3 wv=>∃ l:List UInt8,TxI F gate beh s0 N w u v0 l/\wv.ownsRow 0 5 1 v3 l.length (kS l)/\(∀ k,v3.ownBlock=some k->w.heap.size<=k)/\w.grownBy wv none/\ptN v0<gk)
 case atStart=>exact ⟨[],aA H0,World.ownsRow_nil _ _ _ _,fun k hk=>(by cases hk),World.grownBy.refl _ _,by simp [ptN]⟩
 case round=>
  obtain ⟨l,hI,hown,dY,hgr,fW⟩:=hrel
  obtain ⟨ao,cp,rfl⟩:=aG hown
  rcases hI with ⟨rfl,fF⟩ | ⟨g1,pr1,u1,rfl,hV,fF⟩
  ·have HB:=aB (aHU hown (by have:=congrArg List.length fF;simp at this;omega))
   have HO:=aB (And.intro dY (And.intro hgr fF))
   clear hown dY hgr fF
   go_wp2_with fail
   refine (aA HB).mono ?_
   rintro e w3 ⟨rfl,dW,hg3⟩
   have hcv:=VL (l:=l.reverse) (ao:=ao) (cp:=cp) (by simpa using dW)
   rw [List.length_reverse] at hcv
   have H3:=aB hg3
   clear dW hg3 HB
   go_wp2
   go_ret
   obtain ⟨dY,hgr,fF⟩:=aA HO
   have hg3:=aA H3
   rw [fF]
   refine ⟨rfl,hg3.os.trans hgr.os,hg3.tape.trans hgr.tape,hg3.output.trans hgr.output,Nat.le_trans hgr.size hg3.size,fun k hk _=>(hg3.block k (Nat.lt_of_lt_of_le hk hgr.size) (fun e=>?_)).trans (hgr.block k hk (by simp))⟩
   have:=dY k e.symm
   omega
  ·have hlu:l.length<=u.length:=by rw [fF];simp
   have hg1:g1+1<gk:=fW
   obtain ⟨fr,c,hb,hc⟩:∃ fr c,w.heap[g1]? = some (wJ pr1 fr c)/\((c=0/\TxI F gate beh s0 N w u (.pointer fr) l/\ptN (.pointer fr)<g1+1)\/∃ x:UInt8,c=x.toNat/\x≠0/\TxI F gate beh s0 N w u (.pointer fr) (l++[x])/\ptN (.pointer fr)<g1+1):=by
    cases hV with
    | root _ h=>exact ⟨_,_,h,.inl ⟨rfl,.inl ⟨rfl,by simpa using fF⟩,by simp [ptN]⟩⟩
    | @free _ g' _ pr' _ _ h0 h1 h2 h3=>exact ⟨_,_,h3,.inl ⟨rfl,.inr ⟨g',pr',u1,rfl,h1,fF⟩,by simp [ptN];omega⟩⟩
    | @sign _ g' _ pr' u' x _ h0 h1 h2 h3 h4=>exact ⟨_,_,h4,.inr ⟨x,rfl,h3,.inr ⟨g',pr',u',rfl,h1,by rw [fF];simp⟩,by simp [ptN];omega⟩⟩
   have hbr:=(hgr.block g1 (aD hb) (by simp)).trans hb
   have c4:wr.cell? ⟨g1,4,none⟩=some (.int .u8 (c:Int)):=by rw [aC hbr 4];rfl
   have c3:wr.cell? ⟨g1,3,none⟩=some (.pointer fr):=by rw [aC hbr 3];rfl
   have HO:=aB (And.intro hown (And.intro dY (And.intro hgr hbr)))
   rcases hc with ⟨rfl,hI,hm⟩ | ⟨x,rfl,hx,hI,hm⟩
   ·have HI:=aB (And.intro hI hm)
    clear hown dY hgr hb hbr hI hm hV fF fW
    go_wp2_with fail
    go_roundg (g1+1)
    case measure=>exact hg1
    case rel=>
     obtain ⟨hown,dY,hgr,_⟩:=aA HO
     exact ⟨l,(aA HI).1,hown,dY,hgr,(aA HI).2⟩
   ·have HI:=aB (And.intro hI hm)
    have hxn:¬ ((x.toNat:Int)=0):=fun e=>hx (by apply UInt8.toNat.inj;show x.toNat=0;omega)
    have hll:l.length<=100000000000000:=by omega
    clear dY hgr hb hbr hI hm hV fF fW
    go_wp2_with (at_builtin;refine wpList_append_lies _ rfl (.tmp 15) (.tmp 20) 96 rfl 0 5 i0 _ 1 1 Tryz.underlying96 jO hz0 hz1 hz2 rfl (by decide) (.slice ao l.length cp) l.length (kS l) rfl (hown.alloc _) ⟨wr.heap.size,0,none⟩ 1 1 [.int .u8 (x.toNat:Int)] rfl rfl (World.news_of_block (cs := #[.int .u8 (x.toNat:Int)]) (heap_alloc_new wr _)) (by simp [Value.oneCell']) (by omega) (by unfold maxLen;omega) (by omega) (by omega) (wr.heap.size+1) (by simp) ?_)
    intro g5 cap5 w5 bB aL bW gH
    obtain ⟨hown',dY,hgr,hbr⟩:=aA HO
    have hbn:(Value.slice ao l.length cp).ownBlock≠some g1:=fun e=>by have:=dY g1 e;have:=hgr.size;exact cM hbr hown' (by decide) e
    have rB:=(aL.block g1 (by simp;exact Nat.lt_succ_of_lt (aD hbr)) (fun e=>hbn e.symm)).trans (heap_alloc_old _ hbr)
    have d3:w5.cell? ⟨g1,3,none⟩=some (.pointer fr):=by rw [aC rB 3];rfl
    have H5:Hid (w5.ownsRow 0 5 1 (.slice (some ⟨g5,0,none⟩) (l.length+1) cap5) (l++[x]).length (kS (l++[x]))/\w.heap.size<=g5/\w.grownBy w5 none):=by
     refine ⟨by simpa [kS] using bB,?_,?_⟩
     ·rcases bW with h | h
      ·exact dY g5 h
      ·have:=hgr.size;omega
     ·refine ⟨aL.os.trans hgr.os,aL.tape.trans hgr.tape,aL.output.trans hgr.output,by have:=aL.size;have:=hgr.size;simp at *;omega,fun k hk _=>(aL.block k (by simp;have:=hgr.size;omega) (fun e=>?_)).trans ((Below.heap_alloc _ _ _ (Nat.lt_of_lt_of_le hk hgr.size)).trans (hgr.block k hk (by simp)))⟩
      have:=dY k e.symm
      omega
    clear bB aL bW gH hown' dY hgr hbr rB hbn hown
    go_wp2_with fail
    go_roundg (g1+1)
    case measure=>exact hg1
    case rel=>
     obtain ⟨q1,q2,q3⟩:=aA H5
     exact ⟨l++[x],(aA HI).1,by simpa using q1,fun k hk=>by simp [Value.ownBlock] at hk;subst hk;exact q2,q3,(aA HI).2⟩
end Go.Proofs.YtlljggefbngkeaaGreatDoor
