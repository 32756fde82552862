import Derived.Test.YtlljggefbngkeaaGreatDoorU04
import Derived.Deep.RegionLaw
import Derived.Deep.AppendLies
import Derived.KernelRfl
set_option maxRecDepth 100000
set_option maxHeartbeats 3200000
namespace Go.Proofs.YtlljggefbngkeaaGreatDoor
open Go.RowKit
structure Fr (X:Nat->Prop) (w w':World):Prop where
 os:w'.os=w.os
 tape:w'.tape=w.tape
 output:w'.output=w.output
 size:w.heap.size<=w'.heap.size
 block:∀ k,k<w.heap.size->¬ X k->w'.heap[k]? = w.heap[k]?
theorem Fr.trans {X:Nat->Prop} {a b c:World} (h:Fr X a b) (k:Fr X b c):Fr X a c:=
 ⟨k.os.trans h.os,k.tape.trans h.tape,k.output.trans h.output,Nat.le_trans h.size k.size,fun i hi hx=>(k.block i (Nat.lt_of_lt_of_le hi h.size) hx).trans (h.block i hi hx)⟩
theorem Fr.of_grown {X:Nat->Prop} {w w':World} {r:Option Nat} (h:w.grownBy w' r) (hX:∀ k,r=some k->k<w.heap.size->X k):Fr X w w' :=
 ⟨h.os,h.tape,h.output,h.size,fun k hk hx=>h.block k hk (fun e=>hx (hX k e.symm hk))⟩
theorem Fr.alloc (X:Nat->Prop) (w:World) (o:Obj):Fr X w (w.alloc o):=Fr.of_grown (World.grownBy_alloc w o none) (fun _ h=>by cases h)
theorem Fr.drew (X:Nat->Prop) (w:World):Fr X w w.drew:=⟨rfl,rfl,rfl,Nat.le_refl _,fun _ _ _=>rfl⟩
theorem Fr.set {X:Nat->Prop} (w:World) (b o:Nat) (v:Value) (h:X b):Fr X w (w.setCell ⟨b,o,none⟩ v):=
 Fr.of_grown (aT w b o v) (fun k e _=>by cases e;exact h)
theorem Tryz.infoPattern:(Tryz.prog.info? 90).map (fun i=>(i.zero,i.size,i.bytes))=some (some (.agg #[.int .u8 0,.string ByteArray.empty,.slice none 0 0]),3,48):=by kernel_rfl
theorem YX {w:World} {b:Nat} {s:ByteArray} {i:Nat} {bad:Bool} {wn:Int} {out:ByteArray} {pv lv:Value} (h:w.heap[b]? = some (eM s i bad wn out pv lv)) (v:Value):
  (w.setCell ⟨b,5,none⟩ v).heap[b]? = some (eM s i bad wn out v lv):=by
 have:=aK h 5 v
 simpa [eM] using this
theorem YY {w:World} {b:Nat} {s:ByteArray} {i:Nat} {bad:Bool} {wn:Int} {out:ByteArray} {pv lv:Value} (h:w.heap[b]? = some (eM s i bad wn out pv lv)) (v:Value):
  (w.setCell ⟨b,6,none⟩ v).heap[b]? = some (eM s i bad wn out pv v):=by
 have:=aK h 6 v
 simpa [eM] using this
theorem cM {w:World} {b base:Nat} {c:Array Value} {T e:TypeId} {f:Nat×Nat} {size n:Nat} {v:Value} {xs:List Value} (h:w.heap[b]? = some (.cells c T f)) (ho:w.ownsRow base e size v n xs) (hne:T≠e):v.ownBlock≠some b:=by
 intro hv
 rcases ho.2 with ⟨h1,_⟩ | ⟨g,cap,cur,h1,_,h2,_⟩
 ·subst h1;cases hv
 ·subst h1
  simp [Value.ownBlock] at hv
  subst hv
  rw [h] at h2
  cases h2
  exact hne rfl
theorem bC (w:World) (o1 o2:Obj):((w.alloc o1).alloc o2).heap[w.heap.size+1]? = some o2:=by
 have:=heap_alloc_new (w.alloc o1) o2
 simpa using this
theorem aA0 {w:World} {b:Nat} {s:ByteArray} {i:Nat} {bad:Bool} {wn:Int} {out:ByteArray} {pv lv:Value} {n:Nat} {xs:List Value} (kind:Int) (set:ByteArray) (sv:Value) (h:w.heap[b]? = some (eM s i bad wn out pv lv))
  (hown:w.ownsRow 0 90 3 pv n xs) (hn:n<=100000) (h1:sv.oneCell'=true):
  Calls Tryz.prog 132 #[.pointer (some ⟨b,0,none⟩),.agg #[.int .u8 kind,.string set,sv]] w fun e w'=>∃ g cap,e = .returned (.int .i64 n)/\
   w'.heap[b]? = some (eM s i bad wn out (.slice (some ⟨g,0,none⟩) (n+1) cap) lv)/\w'.ownsRow 0 90 3 (.slice (some ⟨g,0,none⟩) (n+1) cap) (n+1) (xs++[.int .u8 kind,.string set,sv])/\
   (pv.ownBlock=some g\/w.heap.size<=g)/\Fr (fun k=>k=b\/pv.ownBlock=some k) w w':=by
 obtain ⟨i0,jO,hz0,hz1,hz2⟩:=info_parts Tryz.infoPattern
 have c5:=aC h 5
 have fz:=aM h 5
 have hbl:=aD h
 have hne:=cM h hown (by decide)
 have aER:pv.ownBlock≠some w.heap.size:=fun e=>Nat.lt_irrefl _ (hown.lt _ e).2
 have HB:=aB h
 clear h
 simp at c5
 have sL:∀ u∈[Value.int .u8 kind,.string set,sv],u.oneCell'=true:=by
  intro u hu
  simp at hu
  rcases hu with rfl | rfl | rfl
  ·rfl
  ·rfl
  ·exact h1
 clear h1
 have cz2:∀ o o',((w.alloc o).alloc o').cell? ⟨b,5,none⟩=some pv:=fun o o'=>by rw [World.cell?_alloc_past _ _ _ (by simp;omega),World.cell?_alloc_past _ _ _ hbl];exact c5
 have fz1:∀ o,(w.alloc o).frozen? ⟨b,5,none⟩=false:=fun o=>by rw [World.frozen?_alloc_past _ _ _ hbl];exact fz
 have fz2:∀ o o',((w.alloc o).alloc o').frozen? ⟨b,5,none⟩=false:=fun o o'=>by rw [World.frozen?_alloc_past _ _ _ (by simp;omega)];exact fz1 o
 go_enter Tryz.func132,Tryz.ntmps132
 go_wp2_with fail
 go_region_law
  (refine step_append_lies _ (by rfl) _ _ _ (by rfl) 0 90 i0 _ 3 48 Tryz.underlying25 jO hz0 hz1 hz2 rfl (by omega) pv n xs (by rfl) (((hown.alloc _).alloc _).drew) ⟨w.heap.size+1,0,none⟩ 1 1 [.int .u8 kind,.string set,sv] (by rfl) (by rfl) (World.news_of_block (cs := #[.int .u8 kind,.string set,sv]) (t:=90) (fr:=(0,0)) (bC w _ _)) sL (by omega) (by unfold maxLen;omega) (by omega) (by simp) (w.heap.size+2) (by simp) ?_;intro g cap w1 hown1 hgrow hat hlt;have k1:w1.cell? ⟨b,5,none⟩=some pv:=(by rw [hgrow.cell_far _ (by simp;omega) (Ne.symm hne)];exact cz2 _ _);have k2:w1.frozen? ⟨b,5,none⟩=false:=(by rw [hgrow.frozen_far _ (by simp;omega) (Ne.symm hne)];exact fz2 _ _))
 all_goals
  go_wp2
  go_ret
  have hb1:w1.heap[b]? = some (eM s i bad wn out pv lv):=(hgrow.block b (by simp [iB];omega) (Ne.symm hne)).trans (heap_alloc_old _ (heap_alloc_old _ (aA HB)))
  refine ⟨g,cap,rfl,YX hb1 _,hown1.kept (aT w1 b 5 _) (Or.inr (cM hb1 hown1 (by decide))),?_,?_⟩
  ·rcases hat with hat | hat
   ·exact Or.inl hat
   ·exact Or.inr (by omega)
  ·exact ((((Fr.alloc _ w _).trans (Fr.alloc _ _ _)).trans (Fr.drew _ _)).trans (Fr.of_grown hgrow (fun k e _=>Or.inr e))).trans (Fr.set w1 b 5 _ (Or.inl rfl))
theorem Tryz.infoLens:(Tryz.prog.info? 35).map (fun i=>(i.zero,i.size,i.bytes))=some (some (.agg #[.int .u8 0,.int .i64 0,.int .i64 0,.int .i64 0,.string ByteArray.empty,.string ByteArray.empty,.int .i64 0,.int .i64 0]),8,80):=by kernel_rfl
theorem RY {w:World} {b:Nat} {s:ByteArray} {i:Nat} {bad:Bool} {wn:Int} {out:ByteArray} {pv lv:Value} {n:Nat} {xs:List Value} (kind la lb lat ls lq:Int) (view dflt:ByteArray) (h:w.heap[b]? = some (eM s i bad wn out pv lv))
  (hown:w.ownsRow 0 35 8 lv n xs) (hn:n<=100000):
  Calls Tryz.prog 88 #[.pointer (some ⟨b,0,none⟩),.agg #[.int .u8 kind,.int .i64 la,.int .i64 lb,.int .i64 lat,.string view,.string dflt,.int .i64 ls,.int .i64 lq]] w fun e w'=>∃ g cap,e = .returned (.int .i64 n)/\
   w'.heap[b]? = some (eM s i bad wn out pv (.slice (some ⟨g,0,none⟩) (n+1) cap))/\w'.ownsRow 0 35 8 (.slice (some ⟨g,0,none⟩) (n+1) cap) (n+1) (xs++[.int .u8 kind,.int .i64 la,.int .i64 lb,.int .i64 lat,.string view,.string dflt,.int .i64 ls,.int .i64 lq])/\
   (lv.ownBlock=some g\/w.heap.size<=g)/\Fr (fun k=>k=b\/lv.ownBlock=some k) w w':=by
 obtain ⟨i0,jO,hz0,hz1,hz2⟩:=info_parts Tryz.infoLens
 have c6:=aC h 6
 have fz:=aM h 6
 have hbl:=aD h
 have hne:=cM h hown (by decide)
 have aER:lv.ownBlock≠some w.heap.size:=fun e=>Nat.lt_irrefl _ (hown.lt _ e).2
 have HB:=aB h
 clear h
 simp at c6
 have sL:∀ u∈[Value.int .u8 kind,.int .i64 la,.int .i64 lb,.int .i64 lat,.string view,.string dflt,.int .i64 ls,.int .i64 lq],u.oneCell'=true:=by
  intro u hu
  simp at hu
  rcases hu with rfl | rfl | rfl | rfl | rfl | rfl | rfl | rfl <;> rfl
 have cz2:∀ o o',((w.alloc o).alloc o').cell? ⟨b,6,none⟩=some lv:=fun o o'=>by rw [World.cell?_alloc_past _ _ _ (by simp;omega),World.cell?_alloc_past _ _ _ hbl];exact c6
 have fz1:∀ o,(w.alloc o).frozen? ⟨b,6,none⟩=false:=fun o=>by rw [World.frozen?_alloc_past _ _ _ hbl];exact fz
 have fz2:∀ o o',((w.alloc o).alloc o').frozen? ⟨b,6,none⟩=false:=fun o o'=>by rw [World.frozen?_alloc_past _ _ _ (by simp;omega)];exact fz1 o
 go_enter Tryz.func88,Tryz.ntmps88
 go_wp2_with fail
 go_region_law
  (refine step_append_lies _ (by rfl) _ _ _ (by rfl) 0 35 i0 _ 8 80 Tryz.underlying26 jO hz0 hz1 hz2 rfl (by omega) lv n xs (by rfl) (((hown.alloc _).alloc _).drew) ⟨w.heap.size+1,0,none⟩ 1 1 [.int .u8 kind,.int .i64 la,.int .i64 lb,.int .i64 lat,.string view,.string dflt,.int .i64 ls,.int .i64 lq] (by rfl) (by rfl) (World.news_of_block (cs := #[.int .u8 kind,.int .i64 la,.int .i64 lb,.int .i64 lat,.string view,.string dflt,.int .i64 ls,.int .i64 lq]) (t:=35) (fr:=(0,0)) (bC w _ _)) sL (by omega) (by unfold maxLen;omega) (by omega) (by simp) (w.heap.size+2) (by simp) ?_;intro g cap w1 hown1 hgrow hat hlt;have k1:w1.cell? ⟨b,6,none⟩=some lv:=(by rw [hgrow.cell_far _ (by simp;omega) (Ne.symm hne)];exact cz2 _ _);have k2:w1.frozen? ⟨b,6,none⟩=false:=(by rw [hgrow.frozen_far _ (by simp;omega) (Ne.symm hne)];exact fz2 _ _))
 all_goals
  go_wp2
  go_ret
  have hb1:w1.heap[b]? = some (eM s i bad wn out pv lv):=(hgrow.block b (by simp [iB];omega) (Ne.symm hne)).trans (heap_alloc_old _ (heap_alloc_old _ (aA HB)))
  refine ⟨g,cap,rfl,YY hb1 _,hown1.kept (aT w1 b 6 _) (Or.inr (cM hb1 hown1 (by decide))),?_,?_⟩
  ·rcases hat with hat | hat
   ·exact Or.inl hat
   ·exact Or.inr (by omega)
  ·exact ((((Fr.alloc _ w _).trans (Fr.alloc _ _ _)).trans (Fr.drew _ _)).trans (Fr.of_grown hgrow (fun k e _=>Or.inr e))).trans (Fr.set w1 b 6 _ (Or.inl rfl))
structure Kp (Y:Nat->Prop) (w w':World):Prop where
 os:w'.os=w.os
 tape:w'.tape=w.tape
 output:w'.output=w.output
 size:w.heap.size<=w'.heap.size
 block:∀ k,k<w.heap.size->Y k->w'.heap[k]? = w.heap[k]?
theorem Kp.refl (Y:Nat->Prop) (w:World):Kp Y w w:=⟨rfl,rfl,rfl,Nat.le_refl _,fun _ _ _=>rfl⟩
theorem Kp.trans {Y:Nat->Prop} {a b c:World} (h:Kp Y a b) (k:Kp Y b c):Kp Y a c:=
 ⟨k.os.trans h.os,k.tape.trans h.tape,k.output.trans h.output,Nat.le_trans h.size k.size,fun i hi hx=>(k.block i (Nat.lt_of_lt_of_le hi h.size) hx).trans (h.block i hi hx)⟩
theorem Kp.mono {Y Z:Nat->Prop} {w w':World} (h:Kp Y w w') (hZ:∀ k,k<w.heap.size->Z k->Y k):Kp Z w w' :=
 ⟨h.os,h.tape,h.output,h.size,fun k hk hz=>h.block k hk (hZ k hk hz)⟩
theorem Kp.of_fr {X Y:Nat->Prop} {w w':World} (h:Fr X w w') (hX:∀ k,k<w.heap.size->Y k->¬ X k):Kp Y w w' :=
 ⟨h.os,h.tape,h.output,h.size,fun k hk hy=>h.block k hk (hX k hk hy)⟩
theorem Kp.of_grown {Y:Nat->Prop} {w w':World} {r:Option Nat} (h:w.grownBy w' r) (hr:∀ k,r=some k->¬ Y k):Kp Y w w' :=
 ⟨h.os,h.tape,h.output,h.size,fun k hk hy=>h.block k hk (fun e=>hr k e.symm hy)⟩
theorem Kp.drewN (Y:Nat->Prop) (w:World) (n:Nat):Kp Y w (w.drewN n):=⟨rfl,rfl,rfl,Nat.le_refl _,fun _ _ _=>rfl⟩
theorem Kp.drew (Y:Nat->Prop) (w:World):Kp Y w w.drew:=⟨rfl,rfl,rfl,Nat.le_refl _,fun _ _ _=>rfl⟩
theorem Kp.alloc (Y:Nat->Prop) (w:World) (o:Obj):Kp Y w (w.alloc o):=Kp.of_grown (World.grownBy_alloc w o none) (fun _ h=>by cases h)
theorem Kp.set {Y:Nat->Prop} (w:World) (b o:Nat) (v:Value) (h:¬ Y b):Kp Y w (w.setCell ⟨b,o,none⟩ v):=
 Kp.of_grown (aT w b o v) (fun k e=>by cases e;exact h)
theorem Kp.at {Y:Nat->Prop} {w w':World} (h:Kp Y w w') {k:Nat} {x:Obj} (hk:w.heap[k]? = some x) (hy:Y k):w'.heap[k]? = some x:=(h.block k (aD hk) hy).trans hk
structure iD where
 kind:Int
 set:ByteArray
 subs:List Nat
structure lS where
 kind:Int
 a:Nat
 b:Nat
 at_:Nat
 view:ByteArray
 dflt:ByteArray
 s:Nat
 v:Nat
structure St where
 i:Nat
 bad:Bool
 wn:Int
 out:ByteArray
 P:List iD
 L:List lS
def cG (l:List Nat):List Value:=l.map fun n:Nat => .int .i64 (n:Int)
def aQ (l:lS):List Value:=[.int .u8 l.kind,.int .i64 l.a,.int .i64 l.b,.int .i64 l.at_,.string l.view,.string l.dflt,.int .i64 l.s,.int .i64 l.v]
theorem BX (l:List Nat):(cG l).length=l.length:=by simp [cG]
def PR (w:World) (Y:Nat->Prop) (P:List iD) (xs:List Value):Prop:=
 ∀ j p,P[j]? = some p->∃ v,xs[3*j]? = some (.int .u8 p.kind)/\xs[3*j+1]? = some (.string p.set)/\xs[3*j+2]? = some v/\
  w.ownsRow 0 3 1 v p.subs.length (cG p.subs)/\∀ k,v.ownBlock=some k->¬ Y k
structure RO (w:World) (Y:Nat->Prop) (b:Nat) (s:ByteArray) (st:St) (pv lv:Value) (xs:List Value):Prop where
 blk:w.heap[b]? = some (eM s st.i st.bad st.wn st.out pv lv)
 ownP:w.ownsRow 0 90 3 pv st.P.length xs
 ownL:w.ownsRow 0 35 8 lv st.L.length (st.L.flatMap aQ)
 subs:PR w Y st.P xs
 nb:¬ Y b
 np:∀ k,pv.ownBlock=some k->¬ Y k
 nl:∀ k,lv.ownBlock=some k->¬ Y k
def RH (w:World) (Y:Nat->Prop) (b:Nat) (s:ByteArray) (st:St):Prop:=∃ pv lv xs,RO w Y b s st pv lv xs
theorem aI {w w':World} {base:Nat} {e:TypeId} {size:Nat} {v:Value} {n:Nat} {xs:List Value} (h:w.ownsRow base e size v n xs) (hk:∀ k,v.ownBlock=some k->w'.heap[k]? = w.heap[k]?):w'.ownsRow base e size v n xs:=by
 refine ⟨h.1,?_⟩
 rcases h.2 with h2 | ⟨g,cap,cur,hv,hg,hh,r⟩
 ·exact Or.inl h2
 ·exact Or.inr ⟨g,cap,cur,hv,hg,by rw [hk g (by rw [hv];rfl)];exact hh,r⟩
theorem aJ {w:World} {base:Nat} {e:TypeId} {size:Nat} {v:Value} {n:Nat} {xs:List Value} (h:w.ownsRow base e size v n xs) (k:Nat) (hk:v.ownBlock=some k):k<w.heap.size:=(h.lt k hk).2
theorem nF {w:World} {base base':Nat} {e e':TypeId} {size size':Nat} {v v':Value} {n n':Nat} {xs xs':List Value} (h:w.ownsRow base e size v n xs) (h':w.ownsRow base' e' size' v' n' xs') (hne:e≠e') (k:Nat) (hk:v.ownBlock=some k):v'.ownBlock≠some k:=by
 rcases h.2 with ⟨h1,_⟩ | ⟨g,cap,cur,h1,_,h2,_⟩
 ·subst h1;cases hk
 ·subst h1
  simp [Value.ownBlock] at hk
  subst hk
  exact cM h2 h' hne
theorem RO.reY {w:World} {Y Z:Nat->Prop} {b:Nat} {s:ByteArray} {st:St} {pv lv:Value} {xs:List Value} (h:RO w Y b s st pv lv xs) (hZ:∀ k,k<w.heap.size->Z k->Y k):RO w Z b s st pv lv xs where
 blk:=h.blk
 ownP:=h.ownP
 ownL:=h.ownL
 subs:=fun j p hp=>by
  obtain ⟨v,h1,h2,h3,h4,h5⟩:=h.subs j p hp
  exact ⟨v,h1,h2,h3,h4,fun k hk hz=>h5 k hk (hZ k (aJ h4 k hk) hz)⟩
 nb:=fun hz=>h.nb (hZ b (aD h.blk) hz)
 np:=fun k hk hz=>h.np k hk (hZ k (aJ h.ownP k hk) hz)
 nl:=fun k hk hz=>h.nl k hk (hZ k (aJ h.ownL k hk) hz)
theorem RH.reY {w:World} {Y Z:Nat->Prop} {b:Nat} {s:ByteArray} {st:St} (h:RH w Y b s st) (hZ:∀ k,k<w.heap.size->Z k->Y k):RH w Z b s st:=by
 obtain ⟨pv,lv,xs,h⟩:=h
 exact ⟨pv,lv,xs,h.reY hZ⟩
theorem RO.grown {w w':World} {Y:Nat->Prop} {b:Nat} {s:ByteArray} {st:St} {pv lv:Value} {xs:List Value} {r:Option Nat} (h:RO w Y b s st pv lv xs) (hg:w.grownBy w' r) (hr:∀ k,r=some k->Y k):RO w' Y b s st pv lv xs:=by
 have key:∀ k,k<w.heap.size->¬ Y k->w'.heap[k]? = w.heap[k]? := fun k hk hy=>hg.block k hk (fun e=>hy (hr k e.symm))
 exact {
  blk:=(key b (aD h.blk) h.nb).trans h.blk
  ownP:=aI h.ownP fun k hk=>key k (aJ h.ownP k hk) (h.np k hk)
  ownL:=aI h.ownL fun k hk=>key k (aJ h.ownL k hk) (h.nl k hk)
  subs:=fun j p hp=>by
   obtain ⟨v,h1,h2,h3,h4,h5⟩:=h.subs j p hp
   exact ⟨v,h1,h2,h3,aI h4 fun k hk=>key k (aJ h4 k hk) (h5 k hk),h5⟩
  nb:=h.nb
  np:=h.np
  nl:=h.nl}
theorem RH.grown {w w':World} {Y:Nat->Prop} {b:Nat} {s:ByteArray} {st:St} {r:Option Nat} (h:RH w Y b s st) (hg:w.grownBy w' r) (hr:∀ k,r=some k->Y k):RH w' Y b s st:=by
 obtain ⟨pv,lv,xs,h⟩:=h
 exact ⟨pv,lv,xs,h.grown hg hr⟩
theorem RH.alloc {w:World} {Y:Nat->Prop} {b:Nat} {s:ByteArray} {st:St} (h:RH w Y b s st) (o:Obj):RH (w.alloc o) Y b s st:=h.grown (World.grownBy_alloc w o none) (fun _ h=>by cases h)
theorem RH.drewN {w:World} {Y:Nat->Prop} {b:Nat} {s:ByteArray} {st:St} (h:RH w Y b s st) (n:Nat):RH (w.drewN n) Y b s st:=h.grown (aN w n none) (fun _ h=>by cases h)
theorem RO.reader {w w':World} {Y:Nat->Prop} {b:Nat} {s:ByteArray} {st:St} {pv lv:Value} {xs:List Value} (h:RO w Y b s st pv lv xs) (i:Nat) (bad:Bool) (wn:Int) (out:ByteArray) (hb:w'.heap[b]? = some (eM s i bad wn out pv lv)) (hg:w.grownBy w' (some b)):
  RO w' Y b s {st with i:=i,bad:=bad,wn:=wn,out:=out} pv lv xs:=by
 have key:∀ k,k<w.heap.size->k≠b->w'.heap[k]? = w.heap[k]? := fun k hk hne=>hg.block k hk (fun e=>hne (by simpa using e))
 have hx:=h.blk
 exact {
  blk:=hb
  ownP:=aI h.ownP fun k hk=>key k (aJ h.ownP k hk) (fun e=>cM hx h.ownP (by decide) (by rw [hk,e]))
  ownL:=aI h.ownL fun k hk=>key k (aJ h.ownL k hk) (fun e=>cM hx h.ownL (by decide) (by rw [hk,e]))
  subs:=fun j p hp=>by
   obtain ⟨v,h1,h2,h3,h4,h5⟩:=h.subs j p hp
   exact ⟨v,h1,h2,h3,aI h4 fun k hk=>key k (aJ h4 k hk) (fun e=>cM hx h4 (by decide) (by rw [hk,e])),h5⟩
  nb:=h.nb
  np:=h.np
  nl:=h.nl}
section
variable {w:World} {Y:Nat->Prop} {b:Nat} {s:ByteArray} {st:St}
theorem RH.c0 (h:RH w Y b s st):w.cell? ⟨b,0,none⟩=some (.string s):=by obtain ⟨pv,lv,xs,h⟩:=h;rw [aC h.blk];rfl
theorem RH.c1 (h:RH w Y b s st):w.cell? ⟨b,1,none⟩=some (.int .i64 st.i):=by obtain ⟨pv,lv,xs,h⟩:=h;rw [aC h.blk];rfl
theorem RH.c2 (h:RH w Y b s st):w.cell? ⟨b,2,none⟩=some (.bool st.bad):=by obtain ⟨pv,lv,xs,h⟩:=h;rw [aC h.blk];rfl
theorem RH.c3 (h:RH w Y b s st):w.cell? ⟨b,3,none⟩=some (.int .i64 st.wn):=by obtain ⟨pv,lv,xs,h⟩:=h;rw [aC h.blk];rfl
theorem RH.c4 (h:RH w Y b s st):w.cell? ⟨b,4,none⟩=some (.string st.out):=by obtain ⟨pv,lv,xs,h⟩:=h;rw [aC h.blk];rfl
theorem RH.fz (h:RH w Y b s st) (o:Nat):w.frozen? ⟨b,o,none⟩=false:=by obtain ⟨pv,lv,xs,h⟩:=h;exact aM h.blk o
theorem RH.lt (h:RH w Y b s st):b<w.heap.size:=by obtain ⟨pv,lv,xs,h⟩:=h;exact aD h.blk
theorem RH.nb (h:RH w Y b s st):¬ Y b:=by obtain ⟨pv,lv,xs,h⟩:=h;exact h.nb
theorem RH.setBad (h:RH w Y b s st):RH (w.setCell ⟨b,2,none⟩ (.bool true)) Y b s {st with bad:=true}:=by
 obtain ⟨pv,lv,xs,h⟩:=h
 have hb:(w.setCell ⟨b,2,none⟩ (.bool true)).heap[b]? = some (eM s st.i true st.wn st.out pv lv):=by simpa [eM] using aK h.blk 2 (.bool true)
 exact ⟨pv,lv,xs,h.reader st.i true st.wn st.out hb (aT _ _ _ _)⟩
theorem RH.setWn (h:RH w Y b s st) (n:Int):RH (w.setCell ⟨b,3,none⟩ (.int .i64 n)) Y b s {st with wn:=n}:=by
 obtain ⟨pv,lv,xs,h⟩:=h
 have hb:(w.setCell ⟨b,3,none⟩ (.int .i64 n)).heap[b]? = some (eM s st.i st.bad n st.out pv lv):=by simpa [eM] using aK h.blk 3 (.int .i64 n)
 exact ⟨pv,lv,xs,h.reader st.i st.bad n st.out hb (aT _ _ _ _)⟩
theorem RH.setOut (h:RH w Y b s st) (o:ByteArray):RH (w.setCell ⟨b,4,none⟩ (.string o)) Y b s {st with out:=o}:=by
 obtain ⟨pv,lv,xs,h⟩:=h
 have hb:(w.setCell ⟨b,4,none⟩ (.string o)).heap[b]? = some (eM s st.i st.bad st.wn o pv lv):=by simpa [eM] using aK h.blk 4 (.string o)
 exact ⟨pv,lv,xs,h.reader st.i st.bad st.wn o hb (aT _ _ _ _)⟩
theorem aG9 (h:RH w Y b s st) (hs:s.size<=120) (hi:st.i<=s.size):
  Calls Tryz.prog 58 #[.pointer (some ⟨b,0,none⟩)] w fun e w'=>e = .returned (.int .u8 (cE s st.i st.bad))/\∃ n,w'=w.drewN n:=by
 obtain ⟨pv,lv,xs,h⟩:=h
 exact gP h.blk hs hi
def St.took (st:St) (s:ByteArray):St:=if h:st.i<s.size then {st with i:=st.i+1,out:=st.out++⟨#[s[st.i]]⟩} else st
def St.spoil (st:St):St:={st with bad:=true}
theorem St.took_eq (h:st.i<s.size):st.took s={st with i:=st.i+1,out:=st.out++⟨#[s[st.i]]⟩}:=by simp [St.took,h]
theorem oY (h:RH w Y b s st) (hs:s.size<=120) (hi:st.i<s.size) (ho:st.out.size<=100000) (hb:st.bad=false):
  Calls Tryz.prog 59 #[.pointer (some ⟨b,0,none⟩)] w fun e w'=>e = .returned (.int .u8 (cE s st.i false))/\RH w' Y b s (st.took s)/\Kp Y w w':=by
 obtain ⟨pv,lv,xs,h⟩:=h
 have hblk:=h.blk
 rw [hb] at hblk
 refine (T8 hblk hs hi ho).mono ?_
 rintro e w' ⟨rfl,h1,h2⟩
 refine ⟨rfl,⟨pv,lv,xs,?_⟩,Kp.of_grown h2 (fun k e=>by cases e;exact h.nb)⟩
 rw [St.took_eq hi]
 have:=h.reader (st.i+1) false st.wn _ h1 h2
 rw [← hb] at this
 exact this
theorem VU (h:RH w Y b s st) (hs:s.size<=120) (hi:st.i<=s.size) (hno:st.bad=true\/¬ st.i<s.size):
  Calls Tryz.prog 59 #[.pointer (some ⟨b,0,none⟩)] w fun e w'=>e = .returned (.int .u8 0)/\RH w' Y b s st.spoil/\Kp Y w w':=by
 obtain ⟨pv,lv,xs,h⟩:=h
 refine (YJ h.blk hs hi hno).mono ?_
 rintro e w' ⟨rfl,h1,h2⟩
 exact ⟨rfl,⟨pv,lv,xs,h.reader st.i true st.wn st.out h1 h2⟩,Kp.of_grown h2 (fun k e=>by cases e;exact h.nb)⟩
theorem K1 (c:Int) (h:RH w Y b s st) (hs:s.size<=120) (hi:st.i<s.size) (ho:st.out.size<=100000) (hb:st.bad=false) (hc:cE s st.i false=c):
  Calls Tryz.prog 155 #[.pointer (some ⟨b,0,none⟩),.int .u8 c] w fun e w'=>e = .returned (.tuple #[])/\RH w' Y b s (st.took s)/\Kp Y w w':=by
 obtain ⟨pv,lv,xs,h⟩:=h
 have hblk:=h.blk
 rw [hb] at hblk
 refine (aD4 c hblk hs hi ho hc).mono ?_
 rintro e w' ⟨rfl,h1,h2⟩
 refine ⟨rfl,⟨pv,lv,xs,?_⟩,Kp.of_grown h2 (fun k e=>by cases e;exact h.nb)⟩
 rw [St.took_eq hi]
 have:=h.reader (st.i+1) false st.wn _ h1 h2
 rw [← hb] at this
 exact this
theorem tF (c:Int) (h:RH w Y b s st) (hs:s.size<=120) (hi:st.i<=s.size) (hc:cE s st.i st.bad≠c):
  Calls Tryz.prog 155 #[.pointer (some ⟨b,0,none⟩),.int .u8 c] w fun e w'=>e = .returned (.tuple #[])/\RH w' Y b s st.spoil/\Kp Y w w':=by
 obtain ⟨pv,lv,xs,h⟩:=h
 refine (aD5 c h.blk hs hi hc).mono ?_
 rintro e w' ⟨rfl,h1,h2⟩
 exact ⟨rfl,⟨pv,lv,xs,h.reader st.i true st.wn st.out h1 h2⟩,Kp.of_grown h2 (fun k e=>by cases e;exact h.nb)⟩
def St.skip (st:St) (s:ByteArray):St:=if st.bad=true then st else {st with i:=aF s st.i}
theorem St.skip_ok (st:St) (s:ByteArray) (h:st.bad=false):st.skip s={st with i:=aF s st.i}:=by simp [St.skip,h]
theorem St.skip_bad (st:St) (s:ByteArray) (h:st.bad=true):st.skip s=st:=by simp [St.skip,h]
theorem WV (h:RH w Y b s st) (hs:s.size<=120) (hi:st.i<=s.size):
  Calls Tryz.prog 56 #[.pointer (some ⟨b,0,none⟩)] w fun e w'=>e = .returned (.tuple #[])/\RH w' Y b s (st.skip s)/\Kp Y w w':=by
 obtain ⟨pv,lv,xs,h⟩:=h
 have hblk:=h.blk
 cases hb:st.bad with
 | false=>
  rw [hb] at hblk
  refine (JB hblk hs hi).mono ?_
  rintro e w' ⟨rfl,h1,h2⟩
  have:=h.reader (aF s st.i) false st.wn st.out h1 h2
  rw [← hb] at this
  rw [St.skip_ok st s hb]
  exact ⟨rfl,⟨pv,lv,xs,this⟩,Kp.of_grown h2 (fun k e=>by cases e;exact h.nb)⟩
 | true=>
  rw [hb] at hblk
  refine (JA hblk hs hi).mono ?_
  rintro e w' ⟨rfl,h1,h2⟩
  have:=h.reader st.i true st.wn st.out h1 h2
  rw [← hb] at this
  rw [St.skip_bad st s hb]
  exact ⟨rfl,⟨pv,lv,xs,this⟩,Kp.of_grown h2 (fun k e=>by cases e;exact h.nb)⟩
theorem VZ (h:RH w Y b s st) (hs:s.size<=120) (hi:st.i<s.size) (ho:st.out.size<=100000) (hb:st.bad=false) (hc:bG (cE s st.i false)=true):
  Calls Tryz.prog 192 #[.pointer (some ⟨b,0,none⟩)] w fun e w'=>e = .returned (.int .u8 (cE s st.i false))/\RH w' Y b s (st.took s)/\Kp Y w w':=by
 obtain ⟨pv,lv,xs,h⟩:=h
 have hblk:=h.blk
 rw [hb] at hblk
 refine (QW hblk hs hi ho hc).mono ?_
 rintro e w' ⟨rfl,h1,h2⟩
 refine ⟨rfl,⟨pv,lv,xs,?_⟩,Kp.of_grown h2 (fun k e=>by cases e;exact h.nb)⟩
 rw [St.took_eq hi]
 have:=h.reader (st.i+1) false st.wn _ h1 h2
 rw [← hb] at this
 exact this
theorem WA (h:RH w Y b s st) (hs:s.size<=120) (hi:st.i<=s.size) (hc:bG (cE s st.i st.bad)=false):
  Calls Tryz.prog 192 #[.pointer (some ⟨b,0,none⟩)] w fun e w'=>e = .returned (.int .u8 0)/\RH w' Y b s st.spoil/\Kp Y w w':=by
 obtain ⟨pv,lv,xs,h⟩:=h
 refine (QX h.blk hs hi hc).mono ?_
 rintro e w' ⟨rfl,h1,h2⟩
 exact ⟨rfl,⟨pv,lv,xs,h.reader st.i true st.wn st.out h1 h2⟩,Kp.of_grown h2 (fun k e=>by cases e;exact h.nb)⟩
theorem V0 {base:Nat} {e:TypeId} {size:Nat} {v:Value} {n:Nat} {xs:List Value} (h:w.ownsRow base e size v n xs):v.oneCell'=true:=by
 rcases h.2 with ⟨h1,_⟩ | ⟨g,cap,cur,h1,_⟩ <;> subst h1 <;> rfl
theorem AL (p:iD) (sv:Value) (h:RH w Y b s st) (hn:st.P.length<=100000) (hY:∀ k,Y k->k<w.heap.size) (TJ:w.ownsRow 0 3 1 sv p.subs.length (cG p.subs)) (hsy:∀ k,sv.ownBlock=some k->¬ Y k):
  Calls Tryz.prog 132 #[.pointer (some ⟨b,0,none⟩),.agg #[.int .u8 p.kind,.string p.set,sv]] w fun e w'=>e = .returned (.int .i64 st.P.length)/\RH w' Y b s {st with P:=st.P++[p]}/\Kp Y w w':=by
 obtain ⟨pv,lv,xs,h⟩:=h
 refine (aA0 p.kind p.set sv h.blk h.ownP hn (V0 TJ)).mono ?_
 rintro e w' ⟨g,cap,rfl,hb,ho,hg,hf⟩
 have key:∀ k,k<w.heap.size->k≠b->pv.ownBlock≠some k->w'.heap[k]? = w.heap[k]? := fun k hk h1 h2=>hf.block k hk (fun e=>e.elim h1 h2)
 have hx:=h.blk
 refine ⟨rfl,⟨.slice (some ⟨g,0,none⟩) (st.P.length+1) cap,lv,xs++[.int .u8 p.kind,.string p.set,sv],?_⟩,Kp.of_fr hf (fun k _ hy e=>e.elim (fun e=>h.nb (e▸hy)) (fun e=>h.np k e hy))⟩
 exact {
  blk:=hb
  ownP:=by simpa using ho
  ownL:=aI h.ownL fun k hk=>key k (aJ h.ownL k hk) (fun e=>cM hx h.ownL (by decide) (by rw [hk,e])) (nF h.ownL h.ownP (by decide) k hk)
  subs:=by
   intro j q hq
   have hlen:=h.ownP.1
   rcases Nat.lt_or_ge j st.P.length with hj | hj
   ·have hq':st.P[j]? = some q:=by rw [List.getElem?_append_left hj] at hq;exact hq
    obtain ⟨v,h1,h2,h3,h4,h5⟩:=h.subs j q hq'
    refine ⟨v,?_,?_,?_,aI h4 fun k hk=>key k (aJ h4 k hk) (fun e=>cM hx h4 (by decide) (by rw [hk,e])) (nF h4 h.ownP (by decide) k hk),h5⟩
    ·rw [List.getElem?_append_left (by omega)];exact h1
    ·rw [List.getElem?_append_left (by omega)];exact h2
    ·rw [List.getElem?_append_left (by omega)];exact h3
   ·have hj':j=st.P.length:=by
     have:=(List.getElem?_eq_some_iff.1 hq).1
     simp at this
     omega
    subst hj'
    have hq':q=p:=by simpa using hq.symm
    subst hq'
    refine ⟨sv,?_,?_,?_,aI TJ fun k hk=>key k (aJ TJ k hk) (fun e=>cM hx TJ (by decide) (by rw [hk,e])) (nF TJ h.ownP (by decide) k hk),hsy⟩
    ·rw [List.getElem?_append_right (by omega),show 3*st.P.length-xs.length=0 by omega];rfl
    ·rw [List.getElem?_append_right (by omega),show 3*st.P.length+1-xs.length=1 by omega];rfl
    ·rw [List.getElem?_append_right (by omega),show 3*st.P.length+2-xs.length=2 by omega];rfl
  nb:=h.nb
  np:=by
   intro k hk hy
   simp [Value.ownBlock] at hk
   subst hk
   rcases hg with hg | hg
   ·exact h.np _ hg hy
   ·have:=hY _ hy;omega
  nl:=h.nl}
theorem Node (l:lS) (h:RH w Y b s st) (hn:st.L.length<=100000) (hY:∀ k,Y k->k<w.heap.size):
  Calls Tryz.prog 88 #[.pointer (some ⟨b,0,none⟩),.agg #[.int .u8 l.kind,.int .i64 l.a,.int .i64 l.b,.int .i64 l.at_,.string l.view,.string l.dflt,.int .i64 l.s,.int .i64 l.v]] w fun e w'=>e = .returned (.int .i64 st.L.length)/\RH w' Y b s {st with L:=st.L++[l]}/\Kp Y w w':=by
 obtain ⟨pv,lv,xs,h⟩:=h
 refine (RY l.kind l.a l.b l.at_ l.s l.v l.view l.dflt h.blk h.ownL hn).mono ?_
 rintro e w' ⟨g,cap,rfl,hb,ho,hg,hf⟩
 have key:∀ k,k<w.heap.size->k≠b->lv.ownBlock≠some k->w'.heap[k]? = w.heap[k]? := fun k hk h1 h2=>hf.block k hk (fun e=>e.elim h1 h2)
 have hx:=h.blk
 refine ⟨rfl,⟨pv,.slice (some ⟨g,0,none⟩) (st.L.length+1) cap,xs,?_⟩,Kp.of_fr hf (fun k _ hy e=>e.elim (fun e=>h.nb (e▸hy)) (fun e=>h.nl k e hy))⟩
 exact {
  blk:=hb
  ownP:=aI h.ownP fun k hk=>key k (aJ h.ownP k hk) (fun e=>cM hx h.ownP (by decide) (by rw [hk,e])) (nF h.ownP h.ownL (by decide) k hk)
  ownL:=by simpa [aQ] using ho
  subs:=by
   intro j q hq
   obtain ⟨v,h1,h2,h3,h4,h5⟩:=h.subs j q hq
   exact ⟨v,h1,h2,h3,aI h4 fun k hk=>key k (aJ h4 k hk) (fun e=>cM hx h4 (by decide) (by rw [hk,e])) (nF h4 h.ownL (by decide) k hk),h5⟩
  nb:=h.nb
  np:=h.np
  nl:=by
   intro k hk hy
   simp [Value.ownBlock] at hk
   subst hk
   rcases hg with hg | hg
   ·exact h.nl _ hg hy
   ·have:=hY _ hy;omega}
end
theorem sE (s:ByteArray) (i:Nat):cE s i false=pk s i:=rfl
theorem J6 {w:World} {Y:Nat->Prop} {b:Nat} {s:ByteArray} {st:St} (h:RH w Y b s st) (hs:s.size<=120) (hi:st.i<=s.size):
  Calls Tryz.prog 58 #[.pointer (some ⟨b,0,none⟩)] w fun e w'=>e = .returned (.int .u8 (cE s st.i st.bad))/\RH w' Y b s st/\Kp Y w w'/\w'.heap=w.heap:=
 (aG9 h hs hi).mono fun _ _ ⟨he,n,hw⟩=>by subst hw;exact ⟨he,h.drewN n,Kp.drewN _ _ _,rfl⟩
theorem WH {w:World} {Y:Nat->Prop} {b:Nat} {s:ByteArray} {st:St} {i:Nat} (h:RH w Y b s st) (hs:s.size<=120) (ei:st.i=i) (hi:i<=s.size) (eb:st.bad=false):
  Calls Tryz.prog 58 #[.pointer (some ⟨b,0,none⟩)] w fun e w'=>e = .returned (.int .u8 (pk s i))/\∃ n,w'=w.drewN n:=by
 have:=aG9 h hs (by rw [ei];exact hi)
 rw [ei,eb] at this
 exact this
theorem oZ {w:World} {Y:Nat->Prop} {b:Nat} {s:ByteArray} {st:St} {i:Nat} (h:RH w Y b s st) (hs:s.size<=120) (ei:st.i=i) (hi:i<=s.size) (eb:st.bad=false):
  Calls Tryz.prog 58 #[.pointer (some ⟨b,0,none⟩)] w fun e w'=>e = .returned (.int .u8 (pk s i))/\RH w' Y b s st/\Kp Y w w' :=
 (WH h hs ei hi eb).mono fun _ _ ⟨he,n,hw⟩=>by subst hw;exact ⟨he,h.drewN n,Kp.drewN _ _ _⟩
theorem DZ {w:World} {Y:Nat->Prop} {b:Nat} {s:ByteArray} {st:St} (h:RH w Y b s st) (hs:s.size<=120) (hi:st.i<=s.size) (eb:st.bad=true):
  Calls Tryz.prog 58 #[.pointer (some ⟨b,0,none⟩)] w fun e w'=>e = .returned (.int .u8 0)/\RH w' Y b s st/\Kp Y w w':=by
 have:=J6 h hs hi
 rw [eb,gC] at this
 exact this.mono fun _ _ ⟨h1,h2,h3,_⟩=>⟨h1,h2,h3⟩
def St.upTo (st:St) (s:ByteArray) (j:Nat):St:={st with i:=j,out:=st.out++s.extract st.i j}
theorem Y6 (s:ByteArray) (i j:Nat) (kD:i<=j) (hj:j<s.size):s.extract i (j+1)=s.extract i j++⟨#[s[j]]⟩:=by
 apply ByteArray.ext
 have hj':j<s.data.size:=hj
 have:s.data.extract i (j+1)=s.data.extract i j ++ #[s.data[j]]:=by
  apply Array.ext
  ·simp;omega
  ·intro k h1 h2
   simp at h1 h2
   rcases Nat.lt_or_ge k (j-i) with hk | hk
   ·rw [Array.getElem_append_left (by simp;omega)];simp
   ·obtain rfl:k=j-i:=by omega
    rw [Array.getElem_append_right (by simp;omega)]
    simp [show i+(j-i)=j by omega]
 rw [ByteArray.data_append,ByteArray.data_extract,ByteArray.data_extract]
 exact this
theorem St.upTo_self (st:St) (s:ByteArray):st.upTo s st.i=st:=by
 simp [St.upTo]
theorem St.upTo_took (st:St) (s:ByteArray) (j:Nat) (kD:st.i<=j) (hj:j<s.size):(st.upTo s j).took s=st.upTo s (j+1):=by
 rw [St.took_eq (st:=st.upTo s j) (s:=s) hj]
 simp only [St.upTo]
 rw [Y6 s st.i j kD hj,ByteArray.append_assoc]
theorem St.upTo_i (st:St) (s:ByteArray) (j:Nat):(st.upTo s j).i=j:=rfl
theorem St.upTo_bad (st:St) (s:ByteArray) (j:Nat):(st.upTo s j).bad=st.bad:=rfl
theorem St.upTo_P (st:St) (s:ByteArray) (j:Nat):(st.upTo s j).P=st.P:=rfl
theorem St.upTo_L (st:St) (s:ByteArray) (j:Nat):(st.upTo s j).L=st.L:=rfl
theorem St.upTo_out (st:St) (s:ByteArray) (j:Nat) (h:st.i<=j) (hj:j<=s.size):(st.upTo s j).out.size=st.out.size+(j-st.i):=by
 simp [St.upTo];omega
theorem Z1 (c:Int) (h0:0<=c) (h1:c<=255) (W:World) (k:Nat) (h:W.cell? ⟨k,0,none⟩=some (.int .u8 c)):
  (convert 96 9 (.slice (some ⟨k,0,none⟩) 1 1)).run Tryz.prog W = .ok (.string ⟨#[UInt8.ofNat c.toNat]⟩) W:=by
 have e:((UInt8.ofNat c.toNat).toNat:Int)=c:=by
  rw [UInt8.toNat_ofNat'];omega
 exact aBN W k (UInt8.ofNat c.toNat) (by rw [e];exact h)
def aE (l:List UInt8):ByteArray:=⟨l.toArray⟩
theorem AT (l:List UInt8) (x:UInt8):aE l++⟨#[x]⟩=aE (l++[x]):=by
 apply ByteArray.ext;simp [aE,ByteArray.data_append]
theorem aO (l:List UInt8):(aE l).size=l.length:=by simp [aE,ByteArray.size]
theorem iY {s:ByteArray} {i:Nat} (h:bG (pk s i)=true):i<s.size:=by
 rcases Nat.lt_or_ge i s.size with h1 | h1
 ·exact h1
 ·exfalso
  rw [← sE,MZ s i false (by omega)] at h
  revert h;decide
theorem bY {s:ByteArray} {i:Nat} (h:pk s i≠0):i<s.size:=(vK s i false h).1
theorem lE {c:Int} (h:bG c=true):0<c/\c<=255:=by
 simp [bG,iV,oD] at h
 omega
theorem R4 (s:ByteArray) (n i:Nat) (l:List UInt8) (h:bG (pk s i)=false):cQ s (n+1) i l = .err i:=by
 simp [cQ,h]
theorem F7 (s:ByteArray) (n i:Nat) (l:List UInt8) (h:bG (pk s i)=true) (h1:pk s (i+1)≠45):
  cQ s (n+1) i l=if pk s (i+1)=93 then .ok (l++gN (pk s i) (pk s i)) (i+2) else cQ s n (i+1) (l++gN (pk s i) (pk s i)):=by
 rw [cQ,if_pos h,if_neg h1]
theorem F6 (s:ByteArray) (n i:Nat) (l:List UInt8) (h:bG (pk s i)=true) (h1:pk s (i+1)=45) (h2:bG (pk s (i+2))=true) (h3:pk s i<=pk s (i+2)):
  cQ s (n+1) i l=if pk s (i+3)=93 then .ok (l++gN (pk s i) (pk s (i+2))) (i+4) else cQ s n (i+3) (l++gN (pk s i) (pk s (i+2))):=by
 rw [cQ,if_pos h,if_pos h1,if_pos (by simp [h2,h3])]
theorem F8 (s:ByteArray) (n i:Nat) (l:List UInt8) (h:bG (pk s i)=true) (h1:pk s (i+1)=45) (h2:bG (pk s (i+2))=false\/pk s (i+2)<pk s i):
  cQ s (n+1) i l = .err (i+2):=by
 rw [cQ,if_pos h,if_pos h1,if_neg]
 rcases h2 with h2 | h2
 ·simp [h2]
 ·simp;intro _;omega
theorem JX {a b:Int} (ha:bG a=true) (hb:a<=b):gN a b≠[]:=by
 have h0:=lE ha
 unfold gN fK
 rw [show b.toNat+1-a.toNat=(b.toNat-a.toNat)+1 by omega,List.range'_succ,List.filter_cons,if_pos (by rw [show ((a.toNat:Nat):Int)=a by omega];exact ha)]
 simp
def St.bd (st:St) (c:Int):Prop:=(st.out.size:Int)<=20*st.i+c/\(st.P.length:Int)<=20*st.i+c/\(st.L.length:Int)<=20*st.i+c
theorem St.bd_mono {st:St} {c d:Int} (h:st.bd c) (hcd:c<=d):st.bd d:=by unfold St.bd at *;omega
theorem St.bd_upTo {st:St} {c:Int} (h:st.bd c) (s:ByteArray) (j:Nat) (kD:st.i<=j) (hj:j<=s.size):(st.upTo s j).bd c:=by
 have:=St.upTo_out st s j kD hj
 unfold St.bd at *
 rw [St.upTo_i,St.upTo_P,St.upTo_L,this]
 omega
theorem St.bd_up {st:St} {c:Int} (h:st.bd c) (s:ByteArray) (j:Nat) (kD:st.i<j) (hj:j<=s.size):(st.upTo s j).bd (c-19):=by
 have:=St.upTo_out st s j (Nat.le_of_lt kD) hj
 unfold St.bd at *
 rw [St.upTo_i,St.upTo_P,St.upTo_L,this]
 omega
theorem St.bd_spoil {st:St} {c:Int} (h:st.bd c):st.spoil.bd c:=h
def dH (w:World) (Y:Nat->Prop) (b:Nat) (s:ByteArray) (p:Nat) (c:Int):Prop:=∃ st,RH w Y b s st/\st.bad=true/\st.i=p/\p<=s.size/\st.bd c
def PG (Y:Nat->Prop) (b:Nat) (s:ByteArray) (st:St) (c:Int) (e:Ending) (w':World):cN (List UInt8)->Prop
 | .ok l j=>j<=s.size/\st.i<j/\e = .returned (.int .i64 st.P.length)/\RH w' Y b s {st.upTo s j with P:=st.P++[⟨99,aE l,[]⟩]}
 | .err p=>(∃ k:Nat,e = .returned (.int .i64 k))/\dH w' Y b s p (c+1)/\st.i<=p
theorem wK (l:List UInt8) (h:l≠[]):((aE l).toList.isEmpty)=false:=by
 rw [aE,ByteArray.toList_mk]
 cases l with
 | nil=>exact absurd rfl h
 | cons x l=>rfl
theorem t7:((aE []).toList.isEmpty)=true:=by
 rw [aE,ByteArray.toList_mk];rfl
theorem St.P_le {st:St} {c:Int} {s:ByteArray} (hs:s.size<=120) (hc:c<=5000) (hi:st.i<=s.size) (hd:st.bd c):st.P.length<=100000:=by
 unfold St.bd at hd;omega
theorem St.L_le {st:St} {c:Int} {s:ByteArray} (hs:s.size<=120) (hc:c<=5000) (hi:st.i<=s.size) (hd:st.bd c):st.L.length<=100000:=by
 unfold St.bd at hd;omega
theorem St.out_le {st:St} {c:Int} {s:ByteArray} (hs:s.size<=120) (hc:c<=5000) (hi:st.i<=s.size) (hd:st.bd c):st.out.size<=100000:=by
 unfold St.bd at hd;omega
theorem St.bd_lay {st:St} {c:Int} (hd:st.bd c) (p:iD):St.bd {st with P:=st.P++[p]} (c+1):=by
 unfold St.bd at *
 simp
 omega
def tG (w:World) (Y:Nat->Prop) (b:Nat) (s:ByteArray) (st:St) (r:cN (List UInt8)) (gk:Nat) (setv:Value) (wv:World):Prop:=
 ∃ j l,setv = .string (aE l)/\Kp Y w wv/\st.i<=j/\j<=s.size/\l.length<=300*j/\
  ((RH wv Y b s (st.upTo s j)/\s.size-j<gk/\(∃ m,s.size-j<m/\r=cQ s m j l)/\(l=[]\/pk s j≠93))\/
   (RH wv Y b s (st.upTo s j)/\l≠[]/\pk s j=93/\r = .ok l (j+1))\/
   (RH wv Y b s (st.upTo s j).spoil/\r = .err j))
theorem uV {w:World} {Y:Nat->Prop} {b:Nat} {s:ByteArray} {st:St} {r:cN (List UInt8)} {j nj gk m':Nat} {l':List UInt8} {wv:World} (hjn:j<nj) (hn:nj<=s.size) (kD:st.i<=j) (hl:l'.length<=300*nj) (hl0:l'≠[]) (fW:s.size-nj<gk) (hm:s.size-j<m'+1)
  (hr:r=if pk s nj=93 then .ok l' (nj+1) else cQ s m' nj l') (hR:RH wv Y b s (st.upTo s nj)) (hK:Kp Y w wv):tG w Y b s st r gk (.string (aE l')) wv:=by
 refine ⟨nj,l',rfl,hK,by omega,hn,hl,?_⟩
 by_cases QC:pk s nj=93
 ·rw [if_pos QC] at hr
  exact Or.inr (Or.inl ⟨hR,hl0,QC,hr⟩)
 ·rw [if_neg QC] at hr
  exact Or.inl ⟨hR,fW,⟨m',by omega,hr⟩,Or.inr QC⟩
theorem AI {w:World} {Y:Nat->Prop} {b:Nat} {s:ByteArray} {st:St} {r:cN (List UInt8)} {j m' an:Nat} {a1:Int} {l:List UInt8} {wv:World} (jY:j<s.size) (kD:st.i<=j) (hl:l.length<=300*j) (hm:s.size-j<m'+1) (gE:bG (an:Int)=true) (_ha:(an:Int)<=255) (_h0:pk s j=an) (h1:pk s (j+1)=a1)
  (hr:r=if a1=93 then .ok (l++gN (an:Int) (an:Int)) (j+2) else cQ s m' (j+1) (l++gN (an:Int) (an:Int))) (hR:RH wv Y b s (st.upTo s (j+1))) (hK:Kp Y w wv):tG w Y b s st r (s.size-j) (.string (aE (l++fK an (an+1)))) wv:=by
 have hu:gN (an:Int) (an:Int)=fK an (an+1):=by simp [gN]
 have hne:gN (an:Int) (an:Int)≠[]:=JX gE (Int.le_refl _)
 rw [hu] at hr hne
 have:=fA an (an+1)
 refine uV (j:=j) (nj:=j+1) (m':=m') (by omega) (by omega) kD (by rw [List.length_append];omega) (by simp [hne]) (by omega) hm ?_ hR hK
 rw [h1];exact hr
theorem AH {w:World} {Y:Nat->Prop} {b:Nat} {s:ByteArray} {st:St} {r:cN (List UInt8)} {j m' an bn:Nat} {l:List UInt8} {wv:World} (jY:j+3<=s.size) (kD:st.i<=j) (hl:l.length<=300*j) (hm:s.size-j<m'+1) (gE:bG (an:Int)=true) (hab:an<=bn) (hb:bn<=255) (_h0:pk s j=an)
  (hr:r=if pk s (j+3)=93 then .ok (l++gN (an:Int) (bn:Int)) (j+4) else cQ s m' (j+3) (l++gN (an:Int) (bn:Int))) (hR:RH wv Y b s (st.upTo s (j+3))) (hK:Kp Y w wv):tG w Y b s st r (s.size-j) (.string (aE (l++fK an (bn+1)))) wv:=by
 have hu:gN (an:Int) (bn:Int)=fK an (bn+1):=by simp [gN]
 have hne:gN (an:Int) (bn:Int)≠[]:=JX gE (by omega)
 rw [hu] at hr hne
 have:=fA an (bn+1)
 exact uV (j:=j) (nj:=j+3) (m':=m') (by omega) (by omega) kD (by rw [List.length_append];omega) (by simp [hne]) (by omega) hm hr hR hK
theorem aGG {w:World} {Y:Nat->Prop} {b:Nat} {s:ByteArray} {st:St} {c:Int} (h:RH w Y b s st) (hs:s.size<=120) (hb:st.bad=false) (hi:st.i<=s.size) (hd:st.bd c) (hc:c<=5000) (hY:∀ k,Y k->k<w.heap.size) (n:Nat) (hn:s.size-st.i<n):
  Calls Tryz.prog 191 #[.pointer (some ⟨b,0,none⟩)] w fun e w'=>Kp Y w w'/\PG Y b s st c e w' (cQ s n st.i []):=by
 generalize hr:cQ s n st.i []=r
 have H0:Hid (tG w Y b s st r (s.size-st.i+1) (.string ⟨#[]⟩) w):=by
  refine ⟨st.i,[],rfl,Kp.refl _ _,Nat.le_refl _,hi,by simp,Or.inl ⟨?_,by omega,⟨n,hn,hr.symm⟩,Or.inl rfl⟩⟩
  rw [St.upTo_self];exact h
 have HD:=aB (And.intro hb (And.intro hi hd))
 clear h hb hi hd hn hr
 go_enter Tryz.func191,Tryz.ntmps191
 go_wp2_with fail
 go_loopg [3] (s.size-st.i+1) (fun gk setv wv=>tG w Y b s st r gk setv wv)
 case atStart=>exact aA H0
 case round=>
  clear H0
  obtain ⟨j,l,rfl,hK,kD,hj,hl,sN⟩:=hrel
  have HI:=aB (And.intro hK (And.intro kD hl))
  clear hK kD hl
  rcases sN with ⟨hR,hm,⟨m,lV,hg⟩,hor⟩ | ⟨hR,hl0,hp,hg⟩ | ⟨hR,hg⟩
  ·obtain ⟨m',rfl⟩:∃ m',m=m'+1:=⟨m-1,by omega⟩
   have HG:=aB hg
   clear hg
   have c2:=hR.c2
   rw [St.upTo_bad,(aA HD).1] at c2
   have HP:=aB (J6 hR hs hj)
   rw [St.upTo_bad,(aA HD).1,St.upTo_i,sE] at HP
   cases gE:bG (pk s j) with
   | false=>
    have HS1:=aB (fun (W:World) (hW:RH W Y b s (st.upTo s j))=>WA hW hs hj (by rw [St.upTo_bad,(aA HD).1,St.upTo_i,sE];exact gE))
    have YB:=aB (fun (W:World) (hW:RH W Y b s (st.upTo s j).spoil)=>J6 hW hs hj)
    rw [show (st.upTo s j).spoil.bad=true from rfl,gC] at YB
    have HR:=aB (R4 s m' j l gE)
    rw [← aA HG] at HR
    have hq:(pk s j != 93)=true\/((pk s j != 93)=false/\l=[]):=by
     rcases hor with h0 | h0
     ·by_cases h1:pk s j=93
      ·exact Or.inr ⟨by simp [h1],h0⟩
      ·exact Or.inl (by rw [bne_iff_ne];exact h1)
     ·exact Or.inl (by rw [bne_iff_ne];exact h0)
    clear gE HG hor
    generalize pk s j=a at *
    rcases hq with q1 | ⟨q1,rfl⟩
    ·go_wp2_with (go_at_call 58;refine (aA HP).mono ?_;rintro e w1 ⟨rfl,gJ,cO,XI⟩)
     refine (aA HS1 _ gJ).mono ?_
     rintro e w2 ⟨rfl,gI,hK2⟩
     go_wp2_with (go_at_call 58;refine (aA YB _ gI).mono ?_;rintro e w3 ⟨rfl,eF,hK3,hh3⟩)
     have c3:=eF.c2
     rw [show (st.upTo s j).spoil.bad=true from rfl] at c3
     go_loopg [3,7] 0 (fun gk setv cv wv=>setv = .string (aE l)/\cv = .int .i64 0/\wv=w3)
     case atStart=>exact ⟨rfl,rfl,rfl⟩
     case round=>
      obtain ⟨rfl,rfl,rfl⟩:=hrel
      go_wp2_with fail
      go_roundg (s.size-j)
      case measure=>exact hm
      case rel=>exact ⟨j,l,rfl,(((aA HI).1.trans cO).trans hK2).trans hK3,(aA HI).2.1,hj,(aA HI).2.2,Or.inr (Or.inr ⟨eF,aA HR⟩)⟩
    ·have q2:=t7
     go_wp2_with (go_at_call 58;refine (aA HP).mono ?_;rintro e w1 ⟨rfl,gJ,cO,XI⟩)
     refine (aA HS1 _ gJ).mono ?_
     rintro e w2 ⟨rfl,gI,hK2⟩
     go_wp2_with (go_at_call 58;refine (aA YB _ gI).mono ?_;rintro e w3 ⟨rfl,eF,hK3,hh3⟩)
     have c3:=eF.c2
     rw [show (st.upTo s j).spoil.bad=true from rfl] at c3
     go_loopg [3,7] 0 (fun gk setv cv wv=>setv = .string (aE [])/\cv = .int .i64 0/\wv=w3)
     case atStart=>exact ⟨rfl,rfl,rfl⟩
     case round=>
      obtain ⟨rfl,rfl,rfl⟩:=hrel
      go_wp2_with fail
      go_roundg (s.size-j)
      case measure=>exact hm
      case rel=>exact ⟨j,[],rfl,(((aA HI).1.trans cO).trans hK2).trans hK3,(aA HI).2.1,hj,(aA HI).2.2,Or.inr (Or.inr ⟨eF,aA HR⟩)⟩
   | true=>
    have jY:=iY gE
    have aHL:=lE gE
    have q1:(pk s j != 93)=true:=by
     rw [bne_iff_ne];intro e;rw [e] at gE;revert gE;decide
    have HS1:=aB (fun (W:World) (hW:RH W Y b s (st.upTo s j))=>VZ hW hs jY (St.out_le hs hc hj (St.bd_upTo (aA HD).2.2 s j (aA HI).2.1 hj)) (aA HD).1 gE)
    rw [St.upTo_took st s j (aA HI).2.1 jY,St.upTo_i,sE] at HS1
    have YB:=aB (fun (W:World) (hW:RH W Y b s (st.upTo s (j+1)))=>J6 hW hs jY)
    rw [St.upTo_bad,(aA HD).1,St.upTo_i,sE] at YB
    by_cases DA:pk s (j+1)=45
    ·have iS:j+1<s.size:=bY (by rw [DA];decide)
     have HT:=aB (fun (W:World) (hW:RH W Y b s (st.upTo s (j+1)))=>oY hW hs iS (St.out_le hs hc jY (St.bd_upTo (aA HD).2.2 s (j+1) (Nat.le_succ_of_le (aA HI).2.1) jY)) (aA HD).1)
     rw [St.upTo_took st s (j+1) (Nat.le_succ_of_le (aA HI).2.1) iS] at HT
     have xU:=aB (fun (W:World) (hW:RH W Y b s (st.upTo s (j+2)))=>J6 hW hs iS)
     rw [St.upTo_bad,(aA HD).1,St.upTo_i,sE] at xU
     have WQ:=aB (fun (W:World)=>lD (pk s (j+2)) W)
     rw [DA] at YB
     have H45:=aB DA
     clear DA
     cases hs2:bG (pk s (j+2)) with
     | true=>
      have fR:=iY hs2
      have aJ0:=lE hs2
      rw [hs2] at WQ
      by_cases hlt:pk s (j+2)<pk s j
      ·have HR:=aB (F8 s m' j l gE (aA H45) (Or.inr hlt))
       rw [← aA HG] at HR
       have XY:=aB (fun (W:World) (hW:RH W Y b s (st.upTo s (j+2)).spoil)=>VU hW hs iS (Or.inl rfl))
       clear hs2 gE HG hor H45
       generalize pk s j=a at *
       generalize pk s (j+2)=a2 at *
       obtain ⟨an,rfl⟩:=Int.eq_ofNat_of_zero_le (show 0<=a by omega)
       have aEU:(a2:Int)<(an:Int):=by omega
       clear hlt
       go_wp2_with (go_at_call 58;refine (aA HP).mono ?_;rintro e w1 ⟨rfl,gJ,cO,XI⟩)
       refine (aA HS1 _ gJ).mono ?_
       rintro e w2 ⟨rfl,gI,hK2⟩
       go_wp2_with (go_at_call 58;refine (aA YB _ gI).mono ?_;rintro e w3 ⟨rfl,eF,hK3,hh3⟩)
       refine (aA HT _ eF).mono ?_
       rintro e w4 ⟨rfl,jP,hK4⟩
       go_wp2_with (first | (go_at_call 58;refine (aA xU _ jP).mono ?_;rintro e w5 ⟨rfl,jV,gL,hh5⟩) | (go_at_call 182;refine (aA WQ _).mono ?_;rintro e w5' ⟨rfl,rfl⟩))
       refine (aA xU _ jV).mono ?_
       rintro e w6 ⟨rfl,rK,uK,hh6⟩
       have c6:=rK.c2
       have f6:=rK.fz 2
       have q3:decide ((a2:Int)<(an:Int))=true:=by simp;omega
       go_wp2_with fail
       have pM:=rK.setBad
       refine (aA XY _ pM).mono ?_
       rintro e w8 ⟨rfl,uJ,R0⟩
       have c8:=uJ.c2
       rw [show (st.upTo s (j+2)).spoil.spoil.bad=true from rfl] at c8
       have q5:decide ((an:Int)<=0)=false:=by simp;omega
       go_wp2_with fail
       go_loopg [3,7] 0 (fun gk setv cv wv=>setv = .string (aE l)/\cv = .int .i64 an/\wv=w8)
       case atStart=>exact ⟨rfl,rfl,rfl⟩
       case round=>
        obtain ⟨rfl,rfl,rfl⟩:=hrel
        go_wp2_with fail
        go_roundg (s.size-j)
        case measure=>exact hm
        case rel=>exact ⟨j+2,l,rfl,(((((((aA HI).1.trans cO).trans hK2).trans hK3).trans hK4).trans gL).trans uK).trans ((Kp.set _ _ _ _ rK.nb).trans R0),Nat.le_trans (aA HI).2.1 (by omega),iS,Nat.le_trans (aA HI).2.2 (by omega),Or.inr (Or.inr ⟨uJ,aA HR⟩)⟩
      ·have EJ:j+3<=s.size:=fR
       have XY:=aB (fun (W:World) (hW:RH W Y b s (st.upTo s (j+2)))=>oY hW hs fR (St.out_le hs hc iS (St.bd_upTo (aA HD).2.2 s (j+2) (Nat.le_trans (aA HI).2.1 (by omega)) iS)) (aA HD).1)
       rw [St.upTo_took st s (j+2) (Nat.le_trans (aA HI).2.1 (by omega)) fR,St.upTo_i,sE] at XY
       have HR:=aB (F6 s m' j l gE (aA H45) hs2 (by omega))
       rw [← aA HG] at HR
       have Hsg:=aB gE
       clear hs2 gE HG hor H45
       have hge:pk s j<=pk s (j+2):=by omega
       clear hlt
       generalize hpa:pk s j=a at *
       generalize pk s (j+2)=a2 at *
       have Hpa:=aB hpa
       clear hpa
       obtain ⟨an,rfl⟩:=Int.eq_ofNat_of_zero_le (show 0<=a by omega)
       obtain ⟨bn,rfl⟩:=Int.eq_ofNat_of_zero_le (show 0<=a2 by omega)
       have hab:an<=bn:=by omega
       go_wp2_with (go_at_call 58;refine (aA HP).mono ?_;rintro e w1 ⟨rfl,gJ,cO,XI⟩)
       refine (aA HS1 _ gJ).mono ?_
       rintro e w2 ⟨rfl,gI,hK2⟩
       go_wp2_with (go_at_call 58;refine (aA YB _ gI).mono ?_;rintro e w3 ⟨rfl,eF,hK3,hh3⟩)
       refine (aA HT _ eF).mono ?_
       rintro e w4 ⟨rfl,jP,hK4⟩
       go_wp2_with (first | (go_at_call 58;refine (aA xU _ jP).mono ?_;rintro e w5 ⟨rfl,jV,gL,hh5⟩) | (go_at_call 182;refine (aA WQ _).mono ?_;rintro e w5' ⟨rfl,rfl⟩))
       refine (aA xU _ jV).mono ?_
       rintro e w6 ⟨rfl,rK,uK,hh6⟩
       have q3:decide ((bn:Int)<(an:Int))=false:=by simp;omega
       go_wp2_with fail
       refine (aA XY _ rK).mono ?_
       rintro e w7 ⟨rfl,pM,rM⟩
       go_wp2_with fail
       go_loopg [3,7] (bn+1) (fun gk setv cv wv=>∃ k:Nat,cv = .int .i64 k/\an<=k/\k<=bn+1/\setv = .string (aE (l++fK an k))/\bn+1-k<=gk/\RH wv Y b s (st.upTo s (j+3))/\Kp Y w wv)
       case atStart=>exact ⟨an,rfl,Nat.le_refl _,by omega,by rw [uY,List.append_nil],by omega,pM,((((((aA HI).1.trans cO).trans hK2).trans hK3).trans hK4).trans gL).trans (uK.trans rM)⟩
       case round=>
        obtain ⟨k,rfl,aY,hk2,rfl,fW,uJ,R0⟩:=hrel
        have c4:=uJ.c2
        rw [St.upTo_bad,(aA HD).1] at c4
        have HK8:=aB (And.intro fW (And.intro uJ R0))
        clear fW uJ R0
        by_cases hkb:k<=bn
        ·have fF:=fA an k
         have hno:¬ 9223372036854775807<(aE (l++fK an k)).size+1:=by
          have:=(aA HI).2.2
          rw [aO,List.length_append]
          omega
         have hcv:=Z1 (k:Int) (by omega) (by omega)
         have HSG:=aB (fun (W:World)=>lD (k:Int) W)
         cases hsk:bG (k:Int) with
         | true=>
          rw [hsk] at HSG
          have HU:=aB (yD an k aY hsk)
          clear hsk fF
          generalize fK an k=u at *
          go_wp2_with (go_at_call 182;refine (aA HSG _).mono ?_;rintro e w5 ⟨rfl,rfl⟩)
          go_roundg (bn-k)
          case measure=>have:=(aA HK8).1;omega
          case rel=>
           refine ⟨k+1,by go_num,by omega,by omega,?_,by omega,(aA HK8).2.1.alloc _,(aA HK8).2.2.trans (Kp.alloc _ _ _)⟩
           rw [aA HU,AT,List.append_assoc]
         | false=>
          rw [hsk] at HSG
          have HU:=aB (AS an k aY hsk)
          clear hsk fF
          generalize fK an k=u at *
          go_wp2_with (go_at_call 182;refine (aA HSG _).mono ?_;rintro e w5 ⟨rfl,rfl⟩)
          go_roundg (bn-k)
          case measure=>have:=(aA HK8).1;omega
          case rel=>exact ⟨k+1,by go_num,by omega,by omega,by rw [aA HU],by omega,(aA HK8).2.1,(aA HK8).2.2⟩
        ·obtain rfl:k=bn+1:=by omega
         have hlen:=fA an (bn+1)
         go_wp2_with fail
         go_roundg (s.size-j)
         case measure=>omega
         case rel=>exact AH EJ (aA HI).2.1 (aA HI).2.2 lV (aA Hsg) hab (by omega) (aA Hpa) (aA HR) (aA HK8).2.1 (aA HK8).2.2
     | false=>
      rw [hs2] at WQ
      have HR:=aB (F8 s m' j l gE (aA H45) (Or.inl hs2))
      rw [← aA HG] at HR
      have XY:=aB (fun (W:World) (hW:RH W Y b s (st.upTo s (j+2)).spoil)=>VU hW hs iS (Or.inl rfl))
      clear hs2 gE HG hor H45
      generalize pk s j=a at *
      generalize pk s (j+2)=a2 at *
      obtain ⟨an,rfl⟩:=Int.eq_ofNat_of_zero_le (show 0<=a by omega)
      go_wp2_with (go_at_call 58;refine (aA HP).mono ?_;rintro e w1 ⟨rfl,gJ,cO,XI⟩)
      refine (aA HS1 _ gJ).mono ?_
      rintro e w2 ⟨rfl,gI,hK2⟩
      go_wp2_with (go_at_call 58;refine (aA YB _ gI).mono ?_;rintro e w3 ⟨rfl,eF,hK3,hh3⟩)
      refine (aA HT _ eF).mono ?_
      rintro e w4 ⟨rfl,jP,hK4⟩
      go_wp2_with (go_at_call 58;refine (aA xU _ jP).mono ?_;rintro e w5 ⟨rfl,jV,gL,hh5⟩)
      refine (aA WQ _).mono ?_
      rintro e w5' ⟨rfl,rfl⟩
      have c6:=jV.c2
      have f6:=jV.fz 2
      go_wp2_with fail
      have pM:=jV.setBad
      refine (aA XY _ pM).mono ?_
      rintro e w8 ⟨rfl,uJ,R0⟩
      have c8:=uJ.c2
      rw [show (st.upTo s (j+2)).spoil.spoil.bad=true from rfl] at c8
      have q5:decide ((an:Int)<=0)=false:=by simp;omega
      go_wp2_with fail
      go_loopg [3,7] 0 (fun gk setv cv wv=>setv = .string (aE l)/\cv = .int .i64 an/\wv=w8)
      case atStart=>exact ⟨rfl,rfl,rfl⟩
      case round=>
       obtain ⟨rfl,rfl,rfl⟩:=hrel
       go_wp2_with fail
       go_roundg (s.size-j)
       case measure=>exact hm
       case rel=>exact ⟨j+2,l,rfl,((((((aA HI).1.trans cO).trans hK2).trans hK3).trans hK4).trans gL).trans ((Kp.set _ _ _ _ jV.nb).trans R0),Nat.le_trans (aA HI).2.1 (by omega),iS,Nat.le_trans (aA HI).2.2 (by omega),Or.inr (Or.inr ⟨uJ,aA HR⟩)⟩
    ·have q2:(pk s (j+1)==45)=false:=by simpa using DA
     have HR:=aB (F7 s m' j l gE DA)
     rw [← aA HG] at HR
     have Hsg:=aB gE
     clear DA gE HG hor
     generalize hpa:pk s j=a at *
     generalize uD:pk s (j+1)=a1 at *
     have Hpa:=aB (And.intro hpa uD)
     clear hpa uD
     obtain ⟨an,rfl⟩:=Int.eq_ofNat_of_zero_le (show 0<=a by omega)
     go_wp2_with (go_at_call 58;refine (aA HP).mono ?_;rintro e w1 ⟨rfl,gJ,cO,XI⟩)
     refine (aA HS1 _ gJ).mono ?_
     rintro e w2 ⟨rfl,gI,hK2⟩
     go_wp2_with (go_at_call 58;refine (aA YB _ gI).mono ?_;rintro e w3 ⟨rfl,eF,hK3,hh3⟩)
     go_loopg [3,7] (an+1) (fun gk setv cv wv=>∃ k:Nat,cv = .int .i64 k/\an<=k/\k<=an+1/\setv = .string (aE (l++fK an k))/\an+1-k<=gk/\RH wv Y b s (st.upTo s (j+1))/\Kp Y w wv)
     case atStart=>exact ⟨an,rfl,Nat.le_refl _,by omega,by rw [uY,List.append_nil],by omega,eF,(((aA HI).1.trans cO).trans hK2).trans hK3⟩
     case round=>
      obtain ⟨k,rfl,aY,hk2,rfl,fW,jP,hK4⟩:=hrel
      have c4:=jP.c2
      rw [St.upTo_bad,(aA HD).1] at c4
      have HK4:=aB (And.intro fW (And.intro jP hK4))
      clear fW jP hK4
      by_cases hkb:k<=an
      ·have fF:=fA an k
       have hno:¬ 9223372036854775807<(aE (l++fK an k)).size+1:=by
        have:=(aA HI).2.2
        rw [aO,List.length_append]
        omega
       have hcv:=Z1 (k:Int) (by omega) (by omega)
       have HSG:=aB (fun (W:World)=>lD (k:Int) W)
       cases hsk:bG (k:Int) with
       | true=>
        rw [hsk] at HSG
        have HU:=aB (yD an k aY hsk)
        clear hsk fF
        generalize fK an k=u at *
        go_wp2_with (go_at_call 182;refine (aA HSG _).mono ?_;rintro e w5 ⟨rfl,rfl⟩)
        go_roundg (an-k)
        case measure=>have:=(aA HK4).1;omega
        case rel=>
         refine ⟨k+1,by go_num,by omega,by omega,?_,by omega,(aA HK4).2.1.alloc _,(aA HK4).2.2.trans (Kp.alloc _ _ _)⟩
         rw [aA HU,AT,List.append_assoc]
       | false=>
        rw [hsk] at HSG
        have HU:=aB (AS an k aY hsk)
        clear hsk fF
        generalize fK an k=u at *
        go_wp2_with (go_at_call 182;refine (aA HSG _).mono ?_;rintro e w5 ⟨rfl,rfl⟩)
        go_roundg (an-k)
        case measure=>have:=(aA HK4).1;omega
        case rel=>exact ⟨k+1,by go_num,by omega,by omega,by rw [aA HU],by omega,(aA HK4).2.1,(aA HK4).2.2⟩
      ·obtain rfl:k=an+1:=by omega
       have hlen:=fA an (an+1)
       go_wp2_with fail
       go_roundg (s.size-j)
       case measure=>omega
       case rel=>exact AI jY (aA HI).2.1 (aA HI).2.2 lV (aA Hsg) aHL.2 (aA Hpa).1 (aA Hpa).2 (aA HR) (aA HK4).2.1 (aA HK4).2.2
  ·have HG:=aB hg
   clear hg
   have c2:=hR.c2
   rw [St.upTo_bad,(aA HD).1] at c2
   have q1:(pk s j != 93)=false:=by simp [hp]
   have q2:((aE l).toList.isEmpty)=false:=wK l hl0
   have HP:=aB (J6 hR hs hj)
   rw [St.upTo_bad,(aA HD).1,St.upTo_i,sE,hp] at HP
   have Hp:=aB hp
   clear hp
   go_wp2_with (go_at_call 58;refine (aA HP).mono ?_;rintro e w' ⟨rfl,gJ,cO,XI⟩)
   have jY:j<s.size:=bY (by rw [aA Hp];decide)
   have ho:(st.upTo s j).out.size<=100000:=St.out_le hs hc hj (St.bd_upTo (aA HD).2.2 s j (aA HI).2.1 hj)
   have HE:=aB (K1 93 gJ hs jY ho (aA HD).1 (aA Hp))
   rw [St.upTo_took st s j (aA HI).2.1 jY] at HE
   refine (aA HE).mono ?_
   rintro e w2 ⟨rfl,gI,hK2⟩
   go_wp2_with fail
   have dI:(st.upTo s (j+1)).P.length<=100000:=St.P_le (st:=st) hs hc (aA HD).2.1 (aA HD).2.2
   have OC:∀ k,Y k->k<w2.heap.size:=fun k hk=>by have:=hY k hk;have:=(((aA HI).1.trans cO).trans hK2).size;omega
   refine (AL ⟨99,aE l,[]⟩ (.slice none 0 0) gI dI OC (World.ownsRow_nil _ _ _ _) (by intro k hk;cases hk)).mono ?_
   rintro e w3 ⟨rfl,eF,hK3⟩
   go_wp2
   go_ret
   refine ⟨(((aA HI).1.trans cO).trans hK2).trans hK3,?_⟩
   rw [aA HG]
   exact ⟨jY,Nat.lt_succ_of_le (aA HI).2.1,rfl,eF⟩
  ·have c2:=hR.c2
   have HG:=aB hg
   clear hg
   simp [St.spoil] at c2
   go_wp2_with fail
   have q1:cE s (st.upTo s j).spoil.i (st.upTo s j).spoil.bad≠93:=by simp [St.spoil,cE]
   refine (tF 93 hR hs hj q1).mono ?_
   rintro e w2 ⟨rfl,gI,hK2⟩
   go_wp2_with fail
   have dI:(st.upTo s j).spoil.spoil.P.length<=100000:=St.P_le (st:=st) hs hc (aA HD).2.1 (aA HD).2.2
   have OC:∀ k,Y k->k<w2.heap.size:=fun k hk=>by have:=hY k hk;have:=((aA HI).1.trans hK2).size;omega
   refine (AL ⟨99,aE l,[]⟩ (.slice none 0 0) gI dI OC (World.ownsRow_nil _ _ _ _) (by intro k hk;cases hk)).mono ?_
   rintro e w3 ⟨rfl,eF,hK3⟩
   go_wp2
   go_ret
   refine ⟨((aA HI).1.trans hK2).trans hK3,?_⟩
   rw [aA HG]
   exact ⟨⟨_,rfl⟩,⟨_,eF,rfl,rfl,hj,St.bd_lay (St.bd_spoil (St.bd_spoil (St.bd_upTo (aA HD).2.2 s j (aA HI).2.1 hj))) _⟩,(aA HI).2.1⟩
end Go.Proofs.YtlljggefbngkeaaGreatDoor
