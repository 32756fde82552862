import Derived.Test.YtlljggefbngkeaaGreatDoorU23
import Derived.Recover
import Derived.Defers
import Derived.Deep.RegionHeld3
import Derived.BigQuiet
import Derived.Test.YtlljggefbngkeaaGreatDoorU17
set_option maxRecDepth 100000
set_option maxHeartbeats 3200000
namespace Go.Proofs.YtlljggefbngkeaaGreatDoor
open Go.RowKit Go.Shelf
theorem IY (p:Addr) (w:World):
  CallsD Tryz.prog 78 #[.pointer (some p)] .returning w fun e u' w'=>e = .returned (.tuple #[])/\u' = .returning/\w'=w:=by
 refine callsD_of_wpS Tryz.func78 rfl fun c₀ cs hu=>?_
 apply wpS_seq
 apply wpS_region
 simp [wpOpsS,go_sem,recoverD,hu,Tryz.ntmps78,Exit.thenS]
 refine wpS_of_wp ?_
 simp only [Array.replicate_succ,Array.replicate_zero,List.push_toArray,List.append_toArray,List.nil_append,List.cons_append,List.setIfInBounds_toArray,List.set_cons_zero,List.set_cons_succ]
 go_wp2
 cases c₀
 simp_all [bodyPostS,results,Tryz.results78]
theorem k8 (p:Addr) (x m:Int) (older:List PanicEntry) (w:World) (hc:w.cell? p=some (.int .i64 x)) (hz:w.frozen? p=false):
  CallsD Tryz.prog 78 #[.pointer (some p)] (.panicking ({v := .iface 60 (.int .i64 m),recovered:=false}::older)) w fun e u' w' =>
   e = .returned (.tuple #[])/\u' = .panicking ({v := .iface 60 (.int .i64 m),recovered:=true}::older)/\w'=w.setCell p (.int .i64 m):=by
 have hta:∀ W:World,(Instr.typeAssert (.iface 60 (.int .i64 m)) 20 60 true).run Tryz.prog W = .ok (.tuple #[.int .i64 m,.bool true]) W:=fun W=>by first | rfl | kernel_rfl | simp [Instr.typeAssert,go_sem]
 refine callsD_of_wpS Tryz.func78 rfl fun c₀ cs hu=>?_
 apply wpS_seq
 apply wpS_region
 simp [wpOpsS,go_sem,recoverD,hu,Tryz.ntmps78,Exit.thenS]
 refine wpS_of_wp ?_
 simp only [Array.replicate_succ,Array.replicate_zero,List.push_toArray,List.append_toArray,List.nil_append,List.cons_append,List.setIfInBounds_toArray,List.set_cons_zero,List.set_cons_succ]
 go_wp2
 trace_state
 cases c₀
 simp_all [bodyPostS,results,Tryz.results78]
def T4:Prop:=∀ (s:ByteArray) (w:World),s.size<=1000000000->Calls Tryz.prog 79 #[.string s] w fun e w'=>e = .returned (.string s)/\K0 w w'
def wG (N:Nat):Prop:=∀ (args:Array Value) (w:World),(callFunc N args).run Tryz.prog w = .ok (.enter N args) w
def kL (m:Int):List PanicEntry:=[{v := .iface 60 (.int .i64 m),recovered:=false}]
theorem zH (hC:T4) {w:World} {N:Nat} {first caps:Array Value} {u:List UInt8} (eg:wG N) (hu:u.length<=1000000000)
  (hN:∀ W,K0 w W->Calls Tryz.prog N (first++caps) W fun e w'=>e = .returned (.string (aE u))/\K0 W w'):
  Calls Tryz.prog 48 #[.func (.func N) first caps] w fun e w'=>e = .returned (.tuple #[.string (aE u),.int .i64 0])/\K0 w w':=by
 have XE:∀ (fn:Fn) (first cap:Array Value) (w:World),(Instr.makeFunc fn first cap).run Tryz.prog w = .ok (.func fn first cap) w:=fun _ _ _ _=>rfl
 unfold wG at eg
 have HN:=aB hN
 have HC:=aB (fun W=>hC (aE u) W (by rw [aO];exact hu))
 clear hN hC
 go_enter_defers Tryz.func48,Tryz.ntmps48
 go_wp2_with fail
 have eE:K0 w (w.alloc (.cells #[.int .i64 0] 60)):=Kp.alloc _ _ _
 have hb0:(w.alloc (.cells #[.int .i64 0] 60)).heap[w.heap.size]? = some (.cells #[.int .i64 0] 60 (0,0)):=heap_alloc_new w _
 refine (aA HN _ eE).mono ?_
 rintro e w1 ⟨rfl,aY⟩
 have hb1:=(aY.heap (aD hb0)).trans hb0
 go_wp2_with fail
 refine (aA HC _).mono ?_
 rintro e w2 ⟨rfl,hk2⟩
 have hb2:=(hk2.heap (aD hb1)).trans hb1
 have c2:=aC hb2 0
 have f2:=aM hb2 0
 simp at c2
 have hk3:=(eE.trans aY).trans hk2
 go_wp2
 refine leaves_cons (f:=78) (args := #[.pointer (some ⟨w.heap.size,0,none⟩)]) (by simp) (by simp [go_sem]) ?_
 refine (IY ⟨w.heap.size,0,none⟩ _).mono ?_
 rintro e u' w'' ⟨rfl,rfl,rfl⟩
 have hb3:=aK hb2 0 (.int .i64 0)
 simp at hb3
 have c3:=aC hb3 0
 simp at c3
 simp [Leaves,settle,results,Tryz.f48,go_sem,c3]
 exact K0.set hk3 (Nat.le_refl _) 0 (.int .i64 0)
theorem tV {w:World} {N:Nat} {first caps:Array Value} {m:Int} (eg:wG N)
  (hN:∀ W,K0 w W->Calls Tryz.prog N (first++caps) W fun e w'=>e = .panicked (kL m)/\K0 W w'):
  Calls Tryz.prog 48 #[.func (.func N) first caps] w fun e w'=>e = .returned (.tuple #[.string ⟨#[]⟩,.int .i64 m])/\K0 w w':=by
 have XE:∀ (fn:Fn) (first cap:Array Value) (w:World),(Instr.makeFunc fn first cap).run Tryz.prog w = .ok (.func fn first cap) w:=fun _ _ _ _=>rfl
 unfold wG at eg
 have HN:=aB hN
 clear hN
 go_enter_defers Tryz.func48,Tryz.ntmps48
 go_wp2_with fail
 have eE:K0 w (w.alloc (.cells #[.int .i64 0] 60)):=Kp.alloc _ _ _
 have hb0:(w.alloc (.cells #[.int .i64 0] 60)).heap[w.heap.size]? = some (.cells #[.int .i64 0] 60 (0,0)):=heap_alloc_new w _
 refine (aA HN _ eE).mono ?_
 rintro e w1 ⟨rfl,aY⟩
 have hb1:=(aY.heap (aD hb0)).trans hb0
 have c1:=aC hb1 0
 have f1:=aM hb1 0
 simp at c1
 unfold kL
 refine leaves_cons (f:=78) (args := #[.pointer (some ⟨w.heap.size,0,none⟩)]) (by simp) (by simp [go_sem]) ?_
 refine (k8 ⟨w.heap.size,0,none⟩ 0 m [] _ c1 f1).mono ?_
 rintro e u' w'' ⟨rfl,rfl,rfl⟩
 have hb3:=aK hb1 0 (.int .i64 m)
 simp at hb3
 have c3:=aC hb3 0
 simp at c3
 simp [Leaves,settle,results,Tryz.f48,go_sem,c3]
 exact K0.set (eE.trans aY) (Nat.le_refl _) 0 (.int .i64 m)
theorem I8 {w:World} {sl:Value} {l:List (List UInt8)} {N:Nat} {x y:Array Value} {G:List UInt8->List UInt8} (hown:w.ownsRow 0 9 1 sl l.length (cD l)) (hl:l.length<=1000) (eg:wG N)
  (hN:∀ (V:World) (u:List UInt8),K0 w V->u∈l->Calls Tryz.prog N (x.push (.string (aE u))++y) V fun e V'=>e = .returned (.string (aE (G u)))/\K0 V V'):
  Calls Tryz.prog 111 #[sl,.func (.func N) x y] w fun e w'=>JE w (l.map G) e w':=by
 obtain ⟨i1,lW,wD,nL,xX⟩:=info_parts Tryz.infoStr
 obtain ⟨ao0,cp0,rfl⟩:=aG hown
 have HE:=aB (And.intro hown hN)
 clear hown hN
 unfold wG at eg
 go_enter Tryz.func111,Tryz.ntmps111
 go_wp2_with fail
 go_loopg [5,10] (l.length+2) (fun gk v5 v10 wv=>∃ (k:Nat),v10 = .int .i64 (k:Int)/\k<=l.length/\l.length-k<gk/\wv.ownsRow 0 9 1 v5 k (cD ((l.map G).take k))/\(∀ j,v5.ownBlock=some j->w.heap.size<=j)/\K0 w wv)
 case atStart=>exact ⟨0,rfl,Nat.zero_le _,by omega,World.ownsRow_nil _ _ _ _,fun j e=>(by cases e),K0.refl _⟩
 case round=>
  obtain ⟨k,rfl,hk,fW,hR,dY,hK⟩:=hrel
  obtain ⟨ao,cp,rfl⟩:=aG hR
  obtain ⟨hown,hN⟩:=aA HE
  by_cases hlt:k<l.length
  ·have hd:(k:Int)<(l.length:Int):=by omega
   obtain ⟨vb,cap,fM,_,dB⟩:=hown.form (by omega)
   injection fM with hao _ nY
   subst hao
   subst nY
   obtain ⟨u,hu⟩:∃ u,l[k]? = some u:=⟨_,List.getElem?_eq_getElem hlt⟩
   have ck:wr.cell? ⟨vb,k,none⟩=some (.string (aE u)):=by
    rw [World.cell?_of_block (w:=w) (w':=wr) (a:=⟨vb,k,none⟩) (hK.heap dB),hown.cellAt k (by omega)]
    simp [cD,hu]
   have HT:=aB (hN wr u hK (List.mem_of_getElem? hu))
   have HR:=aB (And.intro hR (And.intro dY (And.intro hK hu)))
   clear hR dY hK hown hN hu
   go_wp2_with fail
   refine (aA HT).mono ?_
   rintro e w3 ⟨rfl,hk3⟩
   have dW:=aI (aA HR).1 (fun j e=>hk3.heap (aJ (aA HR).1 j e))
   have H3:=aB hk3
   clear hk3 HT
   go_wp2_with (at_builtin;refine wpList_append_lies _ rfl (.tmp 14) (.tmp 18) 64 rfl 0 9 i1 _ 1 16 Tryz.underlying64 lW wD nL xX rfl (by decide) (.slice ao k cp) k (cD ((l.map G).take k)) rfl (dW.alloc _) ⟨w3.heap.size,0,none⟩ 1 1 [.string (aE (G u))] rfl rfl (World.news_of_block (cs := #[.string (aE (G u))]) (heap_alloc_new w3 _)) (by simp [Value.oneCell']) (by omega) (by unfold maxLen;omega) (by omega) (Nat.zero_le _) _ rfl ?_)
   intro g5 cap5 w5 bB aL bW gH
   have H5:=aB (And.intro bB (And.intro aL bW))
   clear bB aL bW gH dW
   go_wp2_with fail
   go_roundg (gk-1)
   case measure=>omega
   case rel=>
    obtain ⟨bB,aL,bW⟩:=aA H5
    obtain ⟨hR,dY,hK,hu⟩:=aA HR
    have hk3:=aA H3
    have xN:=hK.trans hk3
    have hzr:=xN.size
    have qH:=aL.size
    simp at qH
    refine ⟨k+1,by simp,by omega,by omega,?_,fun j e=>?_,?_⟩
    ·have:cD ((l.map G).take (k+1))=cD ((l.map G).take k)++[.string (aE (G u))]:=by rw [List.take_add_one,List.getElem?_map,hu];simp [cD]
     rw [this]
     exact bB
    ·simp [Value.ownBlock] at e
     subst e
     rcases bW with e | e
     ·exact dY _ e
     ·omega
    ·refine ⟨aL.os.trans xN.os,aL.tape.trans xN.tape,aL.output.trans xN.output,by omega,fun j hj _=>?_⟩
     rw [aL.block j (by simp;omega) (fun e=>by have:=dY j e.symm;omega),Below.heap_alloc _ _ _ (by omega)]
     exact xN.heap hj
  ·have hd:¬ (k:Int)<(l.length:Int):=by omega
   have H7:=aB (And.intro hR hK)
   clear hR dY hK hown hN
   go_wp2
   go_ret
   obtain ⟨hR,hK⟩:=aA H7
   obtain rfl:k=l.length:=by omega
   rw [List.take_of_length_le (by rw [List.length_map];exact Nat.le_refl _)] at hR
   refine ⟨_,rfl,?_,hK⟩
   rw [List.length_map]
   exact hR
end Go.Proofs.YtlljggefbngkeaaGreatDoor
