import Derived.Test.YtlljggefbngkeaaGreatDoorU14
set_option maxRecDepth 100000
set_option maxHeartbeats 3200000
namespace Go.Proofs.YtlljggefbngkeaaGreatDoor
open Go.RowKit
def mP (s:ByteArray) (b i0:Nat):Prop:=
 ∀ (w:World) (i:Nat),i0<=i->w.heap[b]? = some (eL s i)->i<=s.size->∀ n,4*(s.size-i)+4<=n->
  Calls Tryz.prog 80 #[.pointer (some ⟨b,0,none⟩)] w fun e w'=>nV b s w e w' ((aV s n i).map fun x=>joinAlt x.1 x.2)
theorem G4 (s:ByteArray) (hle:∀ i t j,∀ n,bX s n i = .ok t j->j<=s.size) (n i:Nat) (t:LT) (j:Nat) (h:dT s n i = .ok t j):aF s j=j:=by
 cases n with
 | zero=>rw [dT] at h;cases h
 | succ n=>
  rw [dT] at h
  cases hp:bX s n i with
  | err p=>rw [hp] at h;cases h
  | ok t' j' =>
   rw [hp] at h
   simp only [cN.bind] at h
   have hj':=hle _ _ _ _ hp
   have:=dK s j' hj'
   split at h
   ·rename_i yB
    have hlt:aF s j'<s.size:=bY (by rw [yB];decide)
    cases h
    exact mY s _ hlt
   ·cases h
    exact mY s _ hj'
theorem sT (s:ByteArray) (hle:∀ i t j,∀ n,bX s n i = .ok t j->j<=s.size):∀ (n i:Nat) (x:List LT×List Nat) (j:Nat),bI s n i = .ok x j->aF s j=j
 | 0,i,x,j,h=>by rw [bI] at h;cases h
 | n+1,i,x,j,h=>by
  rw [bI] at h
  cases hp:dT s n i with
  | err p=>rw [hp] at h;cases h
  | ok t j' =>
   rw [hp] at h
   simp only [cN.bind] at h
   split at h
   ·cases hq:bI s n j' with
    | err p=>rw [hq] at h;cases h
    | ok y j'' =>
     rw [hq] at h
     cases h
     exact sT s hle n _ _ _ hq
   ·cases h
    exact G4 s hle n _ _ _ hp
theorem F9 (s:ByteArray) (hle:∀ i t j,∀ n,bX s n i = .ok t j->j<=s.size):∀ (n i:Nat) (x:List LT×List Nat) (j:Nat),aV s n i = .ok x j->aF s j=j
 | 0,i,x,j,h=>by rw [aV] at h;cases h
 | n+1,i,x,j,h=>by
  rw [aV] at h
  cases hp:bI s n (aF s i) with
  | err p=>rw [hp] at h;cases h
  | ok t j' =>
   rw [hp] at h
   simp only [cN.bind] at h
   split at h
   ·cases hq:aV s n (j'+1) with
    | err p=>rw [hq] at h;cases h
    | ok y j'' =>
     rw [hq] at h
     cases h
     exact F9 s hle n _ _ _ hq
   ·cases h
    exact sT s hle n _ _ _ hp
theorem G3 {s:ByteArray} {i j:Nat} {v:List UInt8} (h:bN s i = .ok v j):i<j/\j<=s.size:=by
 unfold bN at h
 split at h
 ·rename_i kR
  have hl:i<s.size:=bY (by rw [kR];decide)
  have:=tI s (i+1) hl
  split at h
  ·rename_i h35
   have:dL s (i+1)<s.size:=bY (by rw [h35];decide)
   cases h
   omega
  ·cases h
 ·cases h
theorem R5 {s:ByteArray} {n i:Nat} {t:LT} {j:Nat} (h:eY s n i = .ok t j):i<j/\j<=s.size:=by
 unfold eY at h
 cases hg:cI s n (i+1) with
 | err p=>rw [hg] at h;cases h
 | ok l k=>
  rw [hg] at h
  simp only [cN.bind] at h
  have h0:=(OK s n).2.2 _ _ _ hg
  split at h
  ·rename_i rO
   have hk:k<s.size:=bY (by rw [rO];decide)
   have hb:=dK s (k+1) hk
   split at h
   ·cases hq:bN s (aF s (k+1)) with
    | err p=>rw [hq] at h;cases h
    | ok v k1=>
     rw [hq] at h
     simp only at h
     have h1:=G3 hq
     have hb1:=dK s k1 h1.2
     cases cH:bN s (aF s k1) with
     | err p=>rw [cH] at h;cases h
     | ok d m=>
      rw [cH] at h
      have h2:=G3 cH
      cases h
      omega
   ·cases h
    omega
  ·cases h
theorem zD {s:ByteArray} {n i:Nat} {t:LT} {j:Nat} (h:bX s n i = .ok t j):j<=s.size:=by
 cases n with
 | zero=>rw [bX] at h;cases h
 | succ n=>
  rw [bX] at h
  split at h
  ·exact (R5 h).2
  ·split at h
   ·split at h
    ·cases hq:aV s n (aF s (i+1)+1) with
     | err p=>rw [hq] at h;cases h
     | ok a j1=>
      rw [hq] at h
      simp only [cN.bind] at h
      split at h
      ·cases cH:aV s n (j1+1) with
       | err p=>rw [cH] at h;cases h
       | ok b k=>
        rw [cH] at h
        simp only at h
        split at h
        ·rename_i lO
         have:k<s.size:=bY (by rw [lO];decide)
         cases h
         omega
        ·cases h
      ·cases h
    ·cases h
   ·split at h
    ·cases hq:aV s n (i+1) with
     | err p=>rw [hq] at h;cases h
     | ok a j1=>
      rw [hq] at h
      simp only [cN.bind] at h
      split at h
      ·rename_i lO
       have:j1<s.size:=bY (by rw [lO];decide)
       cases h
       omega
      ·cases h
    ·cases h
theorem qK {s:ByteArray} {n i:Nat} {x:List LT×List Nat} {j:Nat} (h:aV s n i = .ok x j):aF s j=j:=F9 s (fun _ _ _ _ h=>zD h) n i x j h
theorem DM {s:ByteArray} {n i:Nat} {x:List LT×List Nat} {j:Nat} (h:bI s n i = .ok x j):aF s j=j:=sT s (fun _ _ _ _ h=>zD h) n i x j h
theorem II {s:ByteArray} {n i:Nat} {x:LT} {j:Nat} (h:dT s n i = .ok x j):aF s j=j:=G4 s (fun _ _ _ _ h=>zD h) n i x j h
theorem iP (s:ByteArray) (i:Nat):i<=aF s i:=(wU s (s.size-i) i).1
theorem DL (s:ByteArray):∀ n,(∀ i t j,bX s n i = .ok t j->i<j)/\(∀ i t j,dT s n i = .ok t j->i<j)/\(∀ i t j,bI s n i = .ok t j->i<j)/\(∀ i t j,aV s n i = .ok t j->i<j)
 | 0=>⟨fun i t j h=>(by rw [bX] at h;cases h),fun i l j h=>(by rw [dT] at h;cases h),fun i l j h=>(by rw [bI] at h;cases h),fun i l j h=>(by rw [aV] at h;cases h)⟩
 | n+1=>by
  obtain ⟨k1,k2,k3,k4⟩:=DL s n
  refine ⟨fun i t j h=>?_,fun i t j h=>?_,fun i t j h=>?_,fun i t j h=>?_⟩
  ·rw [bX] at h
   split at h
   ·exact (R5 h).1
   ·split at h
    ·split at h
     ·cases hq:aV s n (aF s (i+1)+1) with
      | err p=>rw [hq] at h;cases h
      | ok a j1=>
       rw [hq] at h
       simp only [cN.bind] at h
       have h1:=k4 _ _ _ hq
       have h2:=iP s (i+1)
       split at h
       ·cases cH:aV s n (j1+1) with
        | err p=>rw [cH] at h;cases h
        | ok b k=>
         rw [cH] at h
         simp only at h
         have h3:=k4 _ _ _ cH
         split at h
         ·cases h
          omega
         ·cases h
       ·cases h
     ·cases h
    ·split at h
     ·cases hq:aV s n (i+1) with
      | err p=>rw [hq] at h;cases h
      | ok a j1=>
       rw [hq] at h
       simp only [cN.bind] at h
       have h1:=k4 _ _ _ hq
       split at h
       ·cases h
        omega
       ·cases h
     ·cases h
  ·rw [dT] at h
   cases hq:bX s n i with
   | err p=>rw [hq] at h;cases h
   | ok a j1=>
    rw [hq] at h
    simp only [cN.bind] at h
    have h1:=k1 _ _ _ hq
    have h2:=iP s j1
    split at h
    ·cases h
     have h3:=iP s (aF s j1+1)
     omega
    ·cases h
     omega
  ·rw [bI] at h
   cases hq:dT s n i with
   | err p=>rw [hq] at h;cases h
   | ok a j1=>
    rw [hq] at h
    simp only [cN.bind] at h
    have h1:=k2 _ _ _ hq
    split at h
    ·cases cH:bI s n j1 with
     | err p=>rw [cH] at h;cases h
     | ok b k=>
      rw [cH] at h
      have h3:=k3 _ _ _ cH
      cases h
      omega
    ·cases h
     omega
  ·rw [aV] at h
   have h0:=iP s i
   cases hq:bI s n (aF s i) with
   | err p=>rw [hq] at h;cases h
   | ok a j1=>
    rw [hq] at h
    simp only [cN.bind] at h
    have h1:=k3 _ _ _ hq
    split at h
    ·cases cH:aV s n (j1+1) with
     | err p=>rw [cH] at h;cases h
     | ok b k=>
      rw [cH] at h
      have h3:=k4 _ _ _ cH
      cases h
      omega
    ·cases h
     omega
def IJ (s:ByteArray) (n i:Nat):cN LT:=(aV s n i).bind fun a j=>if pk s j=41 then .ok (.group (joinAlt a.1 a.2)) (j+1) else .err j
theorem aBU {w:World} {b:Nat} {s:ByteArray} {i n:Nat} (h:w.heap[b]? = some (eL s i)) (hs:s.size<=120) (hi:i<=s.size) (lI:mP s b i) (hn:4*(s.size-i)+4<=n):
  Calls Tryz.prog 177 #[.pointer (some ⟨b,0,none⟩)] w fun e w'=>nV b s w e w' (IJ s n i):=by
 have HL:=aB (lI w i (Nat.le_refl _) h hi n hn)
 have hbl:=aD h
 generalize dF:IJ s n i=rr
 unfold IJ at dF
 clear h lI
 go_enter Tryz.func177,Tryz.ntmps177
 go_wp2_with fail
 refine (aA HL).mono ?_
 rintro e w1 oV
 cases hg:aV s n i with
 | err p=>
  rw [hg] at oV dF
  obtain ⟨hp,hg1,mB,rfl⟩:=oV
  have HR:=aB dF
  clear hg HL dF
  go_wp2
  go_ret
  rw [← aA HR]
  exact ⟨hp,hg1,mB,rfl⟩
 | ok x j=>
  have hst:=qK hg
  rw [hg] at oV dF
  obtain ⟨hj,hg1,mB,g,rfl,hT⟩:=oV
  simp only [cN.bind] at dF
  have HT:=aB hT
  clear hg HL hT
  by_cases lO:pk s j=41
  ·have jY:j<s.size:=bY (by rw [lO];decide)
   have HTk:=aB (iN 41 (by decide) (by decide) mB hs hj (by rw [hst];exact (eQ (by decide)).2 lO))
   rw [hst] at HTk
   rw [if_pos lO] at dF
   have HR:=aB dF
   clear lO dF hst
   go_wp2_with fail
   refine (aA HTk).mono ?_
   rintro e w2 ⟨rfl,cH,hg2⟩
   go_wp2
   go_ret
   rw [← aA HR]
   have XJ:=(World.grownBy_alloc w2 (.cells #[.pointer (some ⟨g,0,none⟩)] 54) (some b)).trans (World.grownBy_alloc _ (qU 3 (.slice (some ⟨w2.heap.size,0,none⟩) 1 1) (.slice none 0 0)) _)
   have hs2:=Nat.le_trans hg1.size hg2.size
   refine ⟨jY,(hg1.trans hg2).trans XJ,heap_alloc_old _ (heap_alloc_old _ cH),w2.heap.size+1,rfl,?_⟩
   rw [LR]
   refine ⟨by omega,.slice (some ⟨w2.heap.size,0,none⟩) 1 1,g,?_,⟨?_,fun k e=>?_⟩,?_⟩
   ·exact bC w2 _ _
   ·exact (World.ownsRow_lit (base:=0) (e:=54) (size:=1) w2 #[.pointer (some ⟨g,0,none⟩)] 1 (by omega) (by unfold maxLen;omega) rfl).alloc _
   ·simp [Value.ownBlock] at e
    omega
   ·refine LR.kept (fun k hk hy=>?_) (aA HT)
    exact (XJ.block k (Nat.lt_of_lt_of_le hk hg2.size) (fun e=>hy (by cases e;exact hbl))).trans (bE hg2 k hk (fun e=>hy (by show k<w.heap.size;omega)))
  ·have HTk:=aB (iO 41 (by decide) (by decide) mB hs hj (by rw [hst];exact fun e=>lO ((eQ (by decide)).1 e)))
   rw [hst] at HTk
   rw [if_neg lO] at dF
   have HR:=aB dF
   clear lO dF hst
   go_wp2_with fail
   refine (aA HTk).mono ?_
   rintro e w2 ⟨rfl,cH,hg2⟩
   go_wp2
   go_ret
   rw [← aA HR]
   exact ⟨hj,hg1.trans hg2,cH,rfl⟩
def UX (s:ByteArray) (n i:Nat):cN LT:=
 if pk s (aF s (i+1))=40 then
  (aV s n (aF s (i+1)+1)).bind fun a j=>
   if pk s j=44 then (aV s n (j+1)).bind fun b k=>if pk s k=41 then .ok (.swap i (joinAlt a.1 a.2) (joinAlt b.1 b.2)) (k+1) else .err k
   else .err j
 else .err (aF s (i+1))
theorem tY (w:World) (A B C:Obj):((((w.alloc A).alloc B).alloc C).heap[w.heap.size+2]? = some C):=by
 have:=heap_alloc_new ((w.alloc A).alloc B) C
 simpa using this
theorem aDZ {w:World} {b:Nat} {s:ByteArray} {i n:Nat} (h:w.heap[b]? = some (eL s (i+1))) (hs:s.size<=120) (hi:i+1<=s.size) (lI:mP s b (i+1)) (hn:4*(s.size-(i+1))+4<=n):
  Calls Tryz.prog 176 #[.pointer (some ⟨b,0,none⟩)] w fun e w'=>nV b s w e w' (UX s n i):=by
 have hbl:=aD h
 have c1:=aC h 1
 simp at c1
 have pK:=dK s (i+1) hi
 generalize dF:UX s n i=rr
 unfold UX at dF
 by_cases lX:pk s (aF s (i+1))=40
 ·have fU:aF s (i+1)<s.size:=bY (by rw [lX];decide)
  have zN:=aB (iN 40 (by decide) (by decide) h hs hi ((eQ (by decide)).2 lX))
  rw [if_pos lX] at dF
  have HL1:=aB (fun (W:World) (hW:W.heap[b]? = some (eL s (aF s (i+1)+1)))=>lI W (aF s (i+1)+1) (by omega) hW fU n (by omega))
  have HL:=aB lI
  clear lX h lI
  generalize aF s (i+1)=a at *
  go_enter Tryz.func176,Tryz.ntmps176
  go_wp2_with fail
  refine (aA zN).mono ?_
  rintro e w1 ⟨rfl,h1,g1⟩
  go_wp2_with fail
  refine (aA HL1 _ h1).mono ?_
  rintro e w2 fN
  cases hg:aV s n (a+1) with
  | err p=>
   rw [hg] at fN dF
   obtain ⟨hp,hg2,cH,rfl⟩:=fN
   have HR:=aB dF
   clear hg HL HL1 dF
   go_wp2
   go_ret
   rw [← aA HR]
   exact ⟨hp,g1.trans hg2,cH,rfl⟩
  | ok x j=>
   have hst:=qK hg
   have hlt:=(DL s n).2.2.2 _ _ _ hg
   rw [hg] at fN dF
   obtain ⟨hj,hg2,cH,ga,rfl,XT⟩:=fN
   simp only [cN.bind] at dF
   have aFS:LR s w2 (fun k=>k<w.heap.size) (joinAlt x.1 x.2) ga:=LR.reY (fun k _ hk=>Nat.lt_of_lt_of_le hk g1.size) XT
   have HTa:=aB aFS
   have aAB:=g1.trans hg2
   clear hg HL1 XT aFS g1 hg2 zN h1
   by_cases IC:pk s j=44
   ·have jG:j<s.size:=bY (by rw [IC];decide)
    have HTk:=aB (iN 44 (by decide) (by decide) cH hs hj (by rw [hst];exact (eQ (by decide)).2 IC))
    rw [hst] at HTk
    rw [if_pos IC] at dF
    have kD:i+1<=j+1:=by omega
    have HL2:=aB (fun (W:World) (hW:W.heap[b]? = some (eL s (j+1)))=>aA HL W (j+1) kD hW jG n (by omega))
    clear IC hst HL
    go_wp2_with fail
    refine (aA HTk).mono ?_
    rintro e w3 ⟨rfl,h3,g3⟩
    go_wp2_with fail
    refine (aA HL2 _ h3).mono ?_
    rintro e w4 PY
    cases hg:aV s n (j+1) with
    | err p=>
     rw [hg] at PY dF
     obtain ⟨hp,hg4,hq4,rfl⟩:=PY
     have HR:=aB dF
     clear hg HL2 dF
     go_wp2
     go_ret
     rw [← aA HR]
     exact ⟨hp,(aAB.trans g3).trans hg4,hq4,rfl⟩
    | ok y k=>
     have hst:=qK hg
     rw [hg] at PY dF
     obtain ⟨hk,hg4,hq4,gb,rfl,X4⟩:=PY
     simp only at dF
     have L8:=aAB.trans g3
     have aF7:=g3.trans hg4
     have HTab:=aB (And.intro (LR.kept (w':=w4) (fun k hk hy=>bE aF7 k hk (fun e=>hy (by show k<w.heap.size;omega))) (aA HTa)) (LR.reY (Z:=fun k=>k<w.heap.size) (fun k _ hk=>Nat.lt_of_lt_of_le hk L8.size) X4))
     have aCL:=L8.trans hg4
     clear hg HL2 X4 g3 hg4 aF7 HTk h3 L8 aAB HTa cH
     by_cases lO:pk s k=41
     ·have xZ:k<s.size:=bY (by rw [lO];decide)
      have HTk:=aB (iN 41 (by decide) (by decide) hq4 hs hk (by rw [hst];exact (eQ (by decide)).2 lO))
      rw [hst] at HTk
      rw [if_pos lO] at dF
      have HR:=aB dF
      clear lO dF hst
      go_wp2_with fail
      refine (aA HTk).mono ?_
      rintro e w5 ⟨rfl,hq5,lN⟩
      go_wp2
      go_ret
      rw [← aA HR]
      have XJ:=((World.grownBy_alloc w5 (.cells #[.pointer (some ⟨ga,0,none⟩),.pointer (some ⟨gb,0,none⟩)] 54) (some b)).trans (World.grownBy_alloc _ (.cells #[.int .i64 (i:Int)] 3) _)).trans (World.grownBy_alloc _ (qU 2 (.slice (some ⟨w5.heap.size,0,none⟩) 2 2) (.slice (some ⟨w5.heap.size+1,0,none⟩) 1 1)) _)
      have hs5:=Nat.le_trans aCL.size lN.size
      have old:∀ k,k<w4.heap.size->¬ k<w.heap.size->_:=fun k hk hy=>(XJ.block k (Nat.lt_of_lt_of_le hk lN.size) (fun e=>hy (by cases e;exact hbl))).trans (bE lN k hk (fun e=>hy (by omega)))
      refine ⟨xZ,(aCL.trans lN).trans XJ,heap_alloc_old _ (heap_alloc_old _ (heap_alloc_old _ hq5)),w5.heap.size+2,rfl,?_⟩
      rw [LR]
      refine ⟨by omega,.slice (some ⟨w5.heap.size,0,none⟩) 2 2,.slice (some ⟨w5.heap.size+1,0,none⟩) 1 1,ga,gb,tY w5 _ _ _,⟨?_,fun k e=>?_⟩,⟨?_,fun k e=>?_⟩,LR.kept old (aA HTab).1,LR.kept old (aA HTab).2⟩
      ·exact ((World.ownsRow_lit (base:=0) (e:=54) (size:=1) w5 #[.pointer (some ⟨ga,0,none⟩),.pointer (some ⟨gb,0,none⟩)] 2 (by omega) (by unfold maxLen;omega) rfl).alloc _).alloc _
      ·simp [Value.ownBlock] at e
       omega
      ·have:=(World.ownsRow_lit (base:=0) (e:=3) (size:=1) (w5.alloc (.cells #[.pointer (some ⟨ga,0,none⟩),.pointer (some ⟨gb,0,none⟩)] 54)) #[.int .i64 (i:Int)] 1 (by omega) (by unfold maxLen;omega) rfl).alloc (qU 2 (.slice (some ⟨w5.heap.size,0,none⟩) 2 2) (.slice (some ⟨w5.heap.size+1,0,none⟩) 1 1))
       have hsz:∀ o,(w5.alloc o).heap.size=w5.heap.size+1:=fun o=>by simp
       rw [hsz] at this
       exact this
      ·simp [Value.ownBlock] at e
       omega
     ·have HTk:=aB (iO 41 (by decide) (by decide) hq4 hs hk (by rw [hst];exact fun e=>lO ((eQ (by decide)).1 e)))
      rw [hst] at HTk
      rw [if_neg lO] at dF
      have HR:=aB dF
      clear lO dF hst
      go_wp2_with fail
      refine (aA HTk).mono ?_
      rintro e w5 ⟨rfl,hq5,lN⟩
      go_wp2
      go_ret
      rw [← aA HR]
      exact ⟨hk,aCL.trans lN,hq5,rfl⟩
   ·have HTk:=aB (iO 44 (by decide) (by decide) cH hs hj (by rw [hst];exact fun e=>IC ((eQ (by decide)).1 e)))
    rw [hst] at HTk
    rw [if_neg IC] at dF
    have HR:=aB dF
    clear IC dF hst HL
    go_wp2_with fail
    refine (aA HTk).mono ?_
    rintro e w3 ⟨rfl,b8,hg3⟩
    go_wp2
    go_ret
    rw [← aA HR]
    exact ⟨hj,aAB.trans hg3,b8,rfl⟩
 ·have zN:=aB (iO 40 (by decide) (by decide) h hs hi (fun e=>lX ((eQ (by decide)).1 e)))
  rw [if_neg lX] at dF
  have HR:=aB dF
  clear lX h lI dF
  generalize aF s (i+1)=a at *
  go_enter Tryz.func176,Tryz.ntmps176
  go_wp2_with fail
  refine (aA zN).mono ?_
  rintro e w1 ⟨rfl,h1,g1⟩
  go_wp2
  go_ret
  rw [← aA HR]
  exact ⟨pK.2,g1,h1,rfl⟩
def J4 (s:ByteArray) (b i0:Nat):Prop:=
 ∀ (w:World) (i:Nat),i0<=i->w.heap[b]? = some (eL s i)->i<=s.size->∀ n,4*(s.size-i)+1<=n->
  Calls Tryz.prog 164 #[.pointer (some ⟨b,0,none⟩)] w fun e w'=>nV b s w e w' (bX s n (aF s i))
theorem MR {s:ByteArray} {b i0:Nat} (hs:s.size<=120) (lI:mP s b (i0+1)):J4 s b i0:=by
 intro w i h0 h hi n hn
 obtain ⟨n,rfl⟩:∃ m,n=m+1:=⟨n-1,by omega⟩
 have pK:=dK s i hi
 have GT:=mY s i hi
 have hbl:=aD h
 generalize dF:bX s (n+1) (aF s i)=rr
 rw [bX] at dF
 by_cases rO:pk s (aF s i)=47
 ·have hlt:aF s i<s.size:=bY (by rw [rO];decide)
  have HT:=aB (iN 47 (by decide) (by decide) h hs hi ((eQ (by decide)).2 rO))
  rw [if_pos rO] at dF
  have HR:=aB dF
  clear h dF rO lI GT
  generalize aF s i=a at *
  go_enter Tryz.func164,Tryz.ntmps164
  go_wp2_with fail
  refine (aA HT).mono ?_
  rintro e w1 ⟨rfl,h1,g1⟩
  go_wp2_with fail
  refine (QM h1 hs hlt).mono ?_
  rintro e w2 fN
  obtain ⟨a2,rfl⟩:=fN.ptr
  have xU:=aB fN
  clear fN
  go_wp2
  go_ret
  rw [← aA HR]
  exact nV.from_ g1 (aA xU)
 ·rw [if_neg rO] at dF
  have HN1:=aB (iO 47 (by decide) (by decide) h hs hi (fun e=>rO ((eQ (by decide)).1 e)))
  by_cases sR:pk s (aF s i)=126
  ·have hlt:aF s i<s.size:=bY (by rw [sR];decide)
   have HT:=aB (fun (W:World) (hW:W.heap[b]? = some (eL s (aF s i)))=>iN 126 (by decide) (by decide) hW hs pK.2 (by rw [GT];exact (eQ (by decide)).2 sR))
   rw [GT] at HT
   rw [if_pos sR] at dF
   have HR:=aB dF
   have HL:=aB lI
   clear h dF rO sR lI GT
   generalize aF s i=a at *
   go_enter Tryz.func164,Tryz.ntmps164
   go_wp2_with fail
   refine (aA HN1).mono ?_
   rintro e w0 ⟨rfl,hb0,g0⟩
   go_wp2_with fail
   refine (aA HT _ hb0).mono ?_
   rintro e w1 ⟨rfl,h1,g1⟩
   go_wp2_with fail
   refine (aDZ (n:=n) h1 hs hlt (fun w i' hi'=>aA HL w i' (by omega)) (by omega)).mono ?_
   rintro e w2 fN
   obtain ⟨a2,rfl⟩:=fN.ptr
   have xU:=aB fN
   clear fN
   go_wp2
   go_ret
   rw [← aA HR]
   exact nV.from_ (g0.trans g1) (aA xU)
  ·rw [if_neg sR] at dF
   have HN2:=aB (fun (W:World) (hW:W.heap[b]? = some (eL s (aF s i)))=>iO 126 (by decide) (by decide) hW hs pK.2 (by rw [GT];exact fun e=>sR ((eQ (by decide)).1 e)))
   rw [GT] at HN2
   by_cases lX:pk s (aF s i)=40
   ·have hlt:aF s i<s.size:=bY (by rw [lX];decide)
    have HT:=aB (fun (W:World) (hW:W.heap[b]? = some (eL s (aF s i)))=>iN 40 (by decide) (by decide) hW hs pK.2 (by rw [GT];exact (eQ (by decide)).2 lX))
    rw [GT] at HT
    rw [if_pos lX] at dF
    have HR:=aB dF
    have HL:=aB lI
    clear h dF rO sR lX lI GT
    generalize aF s i=a at *
    go_enter Tryz.func164,Tryz.ntmps164
    go_wp2_with fail
    refine (aA HN1).mono ?_
    rintro e w0 ⟨rfl,hb0,g0⟩
    go_wp2_with fail
    refine (aA HN2 _ hb0).mono ?_
    rintro e w1 ⟨rfl,hb1,g1⟩
    go_wp2_with fail
    refine (aA HT _ hb1).mono ?_
    rintro e w2 ⟨rfl,hb2,g2⟩
    go_wp2_with fail
    refine (aBU (n:=n) hb2 hs hlt (fun w i' hi'=>aA HL w i' (by omega)) (by omega)).mono ?_
    rintro e w3 rL
    obtain ⟨a3,rfl⟩:=rL.ptr
    have HP3:=aB rL
    clear rL
    go_wp2
    go_ret
    rw [← aA HR]
    exact nV.from_ ((g0.trans g1).trans g2) (aA HP3)
   ·rw [if_neg lX] at dF
    have HN3:=aB (fun (W:World) (hW:W.heap[b]? = some (eL s (aF s i)))=>iO 40 (by decide) (by decide) hW hs pK.2 (by rw [GT];exact fun e=>lX ((eQ (by decide)).1 e)))
    rw [GT] at HN3
    have HR:=aB dF
    clear h dF rO sR lX lI GT
    generalize aF s i=a at *
    go_enter Tryz.func164,Tryz.ntmps164
    go_wp2_with fail
    refine (aA HN1).mono ?_
    rintro e w0 ⟨rfl,hb0,g0⟩
    go_wp2_with fail
    refine (aA HN2 _ hb0).mono ?_
    rintro e w1 ⟨rfl,hb1,g1⟩
    go_wp2_with fail
    refine (aA HN3 _ hb1).mono ?_
    rintro e w2 ⟨rfl,hb2,g2⟩
    go_wp2
    go_ret
    rw [← aA HR]
    exact ⟨pK.2,(g0.trans g1).trans g2,hb2,rfl⟩
def aGC (b:Nat) (s:ByteArray) (w:World) (e:Ending) (w':World):cN LT->Prop
 | .ok t j=>∃ j',j'<=s.size/\aF s j'=j/\w.grownBy w' (some b)/\w'.heap[b]? = some (eL s j')/\∃ g,e = .returned (.pointer (some ⟨g,0,none⟩))/\LR s w' (fun k=>k<w.heap.size) t g
 | .err p=>p<=s.size/\w.grownBy w' (some b)/\w'.heap[b]? = some (eL s p)/\e = .returned (.pointer none)
def T0 (s:ByteArray) (b i0:Nat):Prop:=
 ∀ (w:World) (i:Nat),i0<=i->w.heap[b]? = some (eL s i)->i<=s.size->∀ n,4*(s.size-i)+2<=n->
  Calls Tryz.prog 149 #[.pointer (some ⟨b,0,none⟩)] w fun e w'=>aGC b s w e w' (dT s n (aF s i))
theorem QQ {s:ByteArray} {b i0:Nat} (hs:s.size<=120) (C8:J4 s b i0):T0 s b i0:=by
 intro w i h0 h hi n hn
 obtain ⟨n,rfl⟩:∃ m,n=m+1:=⟨n-1,by omega⟩
 have HP:=aB (C8 w i h0 h hi n (by omega))
 have hbl:=aD h
 generalize dF:dT s (n+1) (aF s i)=rr
 rw [dT] at dF
 clear h C8
 go_enter Tryz.func149,Tryz.ntmps149
 go_wp2_with fail
 refine (aA HP).mono ?_
 rintro e w1 oV
 cases hg:bX s n (aF s i) with
 | err p=>
  rw [hg] at oV dF
  obtain ⟨hp,hg1,mB,rfl⟩:=oV
  have HR:=aB dF
  clear hg HP dF
  go_wp2
  go_ret
  rw [← aA HR]
  exact ⟨hp,hg1,mB,rfl⟩
 | ok t j=>
  rw [hg] at oV dF
  obtain ⟨hj,hg1,mB,g,rfl,hT⟩:=oV
  simp only [cN.bind] at dF
  have pK:=dK s j hj
  have GT:=mY s j hj
  have HT:=aB hT
  clear hg HP hT
  by_cases yB:pk s (aF s j)=42
  ·have jY:aF s j<s.size:=bY (by rw [yB];decide)
   have HTk:=aB (iN 42 (by decide) (by decide) mB hs hj ((eQ (by decide)).2 yB))
   rw [if_pos yB] at dF
   have HR:=aB dF
   clear yB dF GT mB
   generalize aF s j=a at *
   go_wp2_with fail
   refine (aA HTk).mono ?_
   rintro e w2 ⟨rfl,cH,hg2⟩
   have c1:=aC cH 1
   simp at c1
   have c2:(w2.alloc (.cells #[.pointer (some ⟨g,0,none⟩)] 54)).cell? ⟨b,1,none⟩=some (.int .i64 ((a:Int)+1)):=by rw [World.cell?_alloc_past _ _ _ (aD cH)];exact c1
   go_wp2
   go_ret
   rw [← aA HR]
   have XJ:=((World.grownBy_alloc w2 (.cells #[.pointer (some ⟨g,0,none⟩)] 54) (some b)).trans (World.grownBy_alloc _ (.cells #[.int .i64 (a:Int)] 3) _)).trans (World.grownBy_alloc _ (qU 4 (.slice (some ⟨w2.heap.size,0,none⟩) 1 1) (.slice (some ⟨w2.heap.size+1,0,none⟩) 1 1)) _)
   have hs2:=Nat.le_trans hg1.size hg2.size
   have old:∀ k,k<w1.heap.size->¬ k<w.heap.size->_:=fun k hk hy=>(XJ.block k (Nat.lt_of_lt_of_le hk hg2.size) (fun e=>hy (by cases e;exact hbl))).trans (bE hg2 k hk (fun e=>hy (by omega)))
   refine ⟨a+1,jY,rfl,(hg1.trans hg2).trans XJ,heap_alloc_old _ (heap_alloc_old _ (heap_alloc_old _ cH)),w2.heap.size+2,rfl,?_⟩
   rw [LR]
   refine ⟨by omega,.slice (some ⟨w2.heap.size,0,none⟩) 1 1,.slice (some ⟨w2.heap.size+1,0,none⟩) 1 1,g,tY w2 _ _ _,⟨?_,fun k e=>?_⟩,⟨?_,fun k e=>?_⟩,LR.kept old (aA HT)⟩
   ·exact ((World.ownsRow_lit (base:=0) (e:=54) (size:=1) w2 #[.pointer (some ⟨g,0,none⟩)] 1 (by omega) (by unfold maxLen;omega) rfl).alloc _).alloc _
   ·simp [Value.ownBlock] at e
    omega
   ·have:=(World.ownsRow_lit (base:=0) (e:=3) (size:=1) (w2.alloc (.cells #[.pointer (some ⟨g,0,none⟩)] 54)) #[.int .i64 (a:Int)] 1 (by omega) (by unfold maxLen;omega) rfl).alloc (qU 4 (.slice (some ⟨w2.heap.size,0,none⟩) 1 1) (.slice (some ⟨w2.heap.size+1,0,none⟩) 1 1))
    have hsz:∀ o,(w2.alloc o).heap.size=w2.heap.size+1:=fun o=>by simp
    rw [hsz] at this
    exact this
   ·simp [Value.ownBlock] at e
    omega
  ·have HTk:=aB (iO 42 (by decide) (by decide) mB hs hj (fun e=>yB ((eQ (by decide)).1 e)))
   rw [if_neg yB] at dF
   have HR:=aB dF
   clear yB dF mB
   go_wp2_with fail
   refine (aA HTk).mono ?_
   rintro e w2 ⟨rfl,cH,hg2⟩
   go_wp2
   go_ret
   rw [← aA HR]
   exact ⟨aF s j,pK.2,GT,hg1.trans hg2,cH,g,rfl,LR.kept (fun k hk hy=>bE hg2 k hk (fun e=>hy (by show k<w.heap.size;omega))) (aA HT)⟩
theorem Tryz.infoLensP:(Tryz.prog.info? 54).map (fun i=>(i.zero,i.size,i.bytes))=some (some (.pointer none),1,8):=by kernel_rfl
theorem LR.loc (s:ByteArray) (t:LT) (g:Nat):Loc (fun w Y=>LR s w Y t g):=⟨fun hk h=>LR.kept hk h,fun hZ h=>LR.reY hZ h⟩
theorem eN.loc (s:ByteArray) (l:List LT) (gs:List Nat):Loc (fun w Y=>eN s w Y l gs):=⟨fun hk h=>eN.kept hk h,fun hZ h=>eN.reY hZ h⟩
def CF (kind:Int) (l:List LT) (ps:List Nat):LT:=if kind=5 then joinRow l ps else joinAlt l ps
theorem NS (kind:Int) (t:LT) (ps:List Nat):CF kind [t] ps=t:=by unfold CF;split <;> rfl
theorem TB {kind:Int} (hh:kind=5\/kind=6) {s:ByteArray} {l:List LT} {ps:List Nat} (hl:l.length≠1) {w:World} {Y:Nat->Prop} {g:Nat} {v jv:Value} {gs:List Nat} (h0:¬ Y g) (h1:w.heap[g]? = some (qU kind v jv)) (h2:LW w Y v gs) (h3:JW w Y jv ps) (h4:eN s w Y l gs):LR s w Y (CF kind l ps) g:=by
 have e:CF kind l ps=if kind=5 then .row l ps else .choice l ps:=by
  match l,hl with
  | [],_=>rfl
  | [t],h=>exact absurd rfl h
  | t::u::l,_=>rfl
 rw [e]
 rcases hh with rfl | rfl
 ·rw [if_pos rfl,LR];exact ⟨h0,v,jv,gs,h1,h2,h3,h4⟩
 ·rw [if_neg (by decide),LR];exact ⟨h0,v,jv,gs,h1,h2,h3,h4⟩
def aDJ (s:ByteArray) (w:World) (Y:Nat->Prop) (t:LT) (e:Ending) (w':World):Prop:=∃ g,e = .returned (.pointer (some ⟨g,0,none⟩))/\w.grownBy w' none/\LR s w' Y t g
theorem KB {s:ByteArray} {w:World} {Y:Nat->Prop} {v jv:Value} {gs:List Nat} {ps:List Nat} {l:List LT} (kind:Int) (hh:kind=5\/kind=6) (hv:LW w Y v gs) (hj:JW w Y jv ps) (hT:eN s w Y l gs) (hY:∀ k,Y k->k<w.heap.size) (hl:gs.length<=1000):
  Calls Tryz.prog 125 #[.int .i64 kind,v,jv] w fun e w'=>aDJ s w Y (CF kind l ps) e w':=by
 have hlen:=hT.len
 by_cases h1:gs.length=1
 ·obtain ⟨g,rfl⟩:=List.length_eq_one_iff.1 h1
  obtain ⟨t,rfl⟩:=List.length_eq_one_iff.1 (hlen.symm.trans h1)
  obtain ⟨k,cap,rfl,_,hlt⟩:=hv.1.form (by simp)
  have c0:=hv.1.cellAt 0 (by simp)
  simp [bD] at c0
  rw [eN] at hT
  have HT:=aB hT.1
  clear hT hv hlen hj
  simp only [List.length_singleton] at *
  go_enter Tryz.func125,Tryz.ntmps125
  go_wp2
  go_ret
  refine ⟨g,rfl,World.grownBy.refl _ _,?_⟩
  rw [NS]
  exact aA HT
 ·obtain ⟨ao,cp,rfl⟩:=aG hv.1
  obtain ⟨aj,cj,rfl⟩:=aG hj.1
  have q1:((gs.length:Int)==1)=false:=by rw [beq_eq_false_iff_ne];omega
  have HT:=aB (And.intro hT (And.intro hv hj))
  have oN:l.length≠1:=by omega
  clear hv hT h1 hlen hj
  go_enter Tryz.func125,Tryz.ntmps125
  go_wp2
  go_ret
  have hg:=World.grownBy_alloc w (qU kind (.slice ao gs.length cp) (.slice aj ps.length cj)) none
  refine ⟨w.heap.size,rfl,hg,?_⟩
  obtain ⟨hT,hv,hj⟩:=aA HT
  exact TB hh oN (fun hy=>by have:=hY _ hy;omega) (heap_alloc_new w _) (hv.kept (fun k hk _=>hg.block k hk (by simp))) (hj.kept (fun k hk _=>hg.block k hk (by simp))) (eN.kept (fun k hk _=>hg.block k hk (by simp)) hT)
def LX (w:World) (b:Nat) (s:ByteArray) (i:Nat) (r:cN (List LT×List Nat)) (next:Nat->Nat->cN (List LT×List Nat)) (need:Nat) (gk:Nat) (v u:Value) (wv:World):Prop:=
 ∃ gs ts ps j m,wv.ownsRow 0 54 1 v gs.length (bD gs)/\(∀ k,v.ownBlock=some k->¬ k<w.heap.size)/\wv.ownsRow 0 3 1 u ps.length (cG ps)/\(∀ k,u.ownBlock=some k->¬ k<w.heap.size)/\w.grownBy wv (some b)/\
  wv.heap[b]? = some (eL s j)/\eN s wv (fun k=>(k<w.heap.size\/u.ownBlock=some k)\/v.ownBlock=some k) ts gs/\r=(next m j).map (fun x=>(ts++x.1,ps++x.2))/\4*(s.size-j)+need<=m/\i<=j/\j<=s.size/\s.size-j<gk/\gs.length<=j/\ps.length<=j
theorem O7 {w wr w3 w5:World} {b g3 g5 cap j3:Nat} {s:ByteArray} {v u:Value} {gs ps:List Nat} {ts:List LT} {t3:LT} {o:Obj} (hbl:b<w.heap.size)
  (hown:wr.ownsRow 0 54 1 v gs.length (bD gs)) (rT:∀ k,v.ownBlock=some k->¬ k<w.heap.size) (hu:wr.ownsRow 0 3 1 u ps.length (cG ps)) (GK:∀ k,u.ownBlock=some k->¬ k<w.heap.size)
  (hg:w.grownBy wr (some b)) (oO:eN s wr (fun k=>(k<w.heap.size\/u.ownBlock=some k)\/v.ownBlock=some k) ts gs) (hg3:wr.grownBy w3 (some b)) (b8:w3.heap[b]? = some (eL s j3)) (K4:LR s w3 (fun k=>k<wr.heap.size) t3 g3)
  (bB:w5.ownsRow 0 54 1 (.slice (some ⟨g5,0,none⟩) (gs.length+1) cap) (gs.length+1) (bD gs++[.pointer (some ⟨g3,0,none⟩)]))
  (aL:(w3.alloc o).grownBy w5 v.ownBlock) (bW:v.ownBlock=some g5\/g5=w3.heap.size+1):
  w5.ownsRow 0 54 1 (.slice (some ⟨g5,0,none⟩) (gs.length+1) cap) (gs++[g3]).length (bD (gs++[g3]))/\(∀ k,(Value.slice (some ⟨g5,0,none⟩) (gs.length+1) cap).ownBlock=some k->¬ k<w.heap.size)/\
  w5.ownsRow 0 3 1 u ps.length (cG ps)/\w.grownBy w5 (some b)/\w5.heap[b]? = some (eL s j3)/\
  eN s w5 (fun k=>(k<w.heap.size\/u.ownBlock=some k)\/(Value.slice (some ⟨g5,0,none⟩) (gs.length+1) cap).ownBlock=some k) (ts++[t3]) (gs++[g3]):=by
 obtain ⟨k1,k2,k3⟩:=tM (m:=gs.length+1) (cap:=cap) (X:=fun k=>k<w.heap.size\/u.ownBlock=some k) (aJ hown) (fun k hk=>hk.elim (fun hk=>Nat.lt_of_lt_of_le hk hg.size) (aJ hu k)) (Or.inl hbl) hg3 aL bW
 have yU:v.ownBlock≠some b:=fun e=>rT b e hbl
 refine ⟨by simpa [bD] using bB,p7 rT hg hg3 bW,aI hu (fun k e=>?_),qB rT hg hg3 aL,(k3 b (aD b8) yU).trans b8,eN.push (k2 (LR.loc s _ _) K4) (k1 (eN.loc s _ _) oO)⟩
 have hk:=aJ hu k e
 exact (k3 k (Nat.lt_of_lt_of_le hk hg3.size) (nF hu hown (by decide) k e)).trans (bE hg3 k hk (fun e'=>GK k e (by omega)))
theorem A7 {w w3 w5:World} {b g5 cap j3 p:Nat} {s:ByteArray} {v u:Value} {gs ps:List Nat} {ts:List LT} {o:Obj} (hbl:b<w.heap.size)
  (hown:w3.ownsRow 0 54 1 v gs.length (bD gs)) (_hvn:∀ k,v.ownBlock=some k->¬ k<w.heap.size) (hu:w3.ownsRow 0 3 1 u ps.length (cG ps)) (GK:∀ k,u.ownBlock=some k->¬ k<w.heap.size)
  (hg:w.grownBy w3 (some b)) (oO:eN s w3 (fun k=>(k<w.heap.size\/u.ownBlock=some k)\/v.ownBlock=some k) ts gs) (b8:w3.heap[b]? = some (eL s j3))
  (bB:w5.ownsRow 0 3 1 (.slice (some ⟨g5,0,none⟩) (ps.length+1) cap) (ps.length+1) (cG ps++[.int .i64 (p:Int)]))
  (aL:(w3.alloc o).grownBy w5 u.ownBlock) (bW:u.ownBlock=some g5\/g5=w3.heap.size+1):
  w5.ownsRow 0 54 1 v gs.length (bD gs)/\w5.ownsRow 0 3 1 (.slice (some ⟨g5,0,none⟩) (ps.length+1) cap) (ps++[p]).length (cG (ps++[p]))/\(∀ k,(Value.slice (some ⟨g5,0,none⟩) (ps.length+1) cap).ownBlock=some k->¬ k<w.heap.size)/\
  w.grownBy w5 (some b)/\w5.heap[b]? = some (eL s j3)/\
  eN s w5 (fun k=>(k<w.heap.size\/(Value.slice (some ⟨g5,0,none⟩) (ps.length+1) cap).ownBlock=some k)\/v.ownBlock=some k) ts gs:=by
 obtain ⟨k1,k2,k3⟩:=tM (m:=ps.length+1) (cap:=cap) (X:=fun k=>k<w.heap.size\/v.ownBlock=some k) (aJ hu) (fun k hk=>hk.elim (fun hk=>Nat.lt_of_lt_of_le hk hg.size) (aJ hown k)) (Or.inl hbl) (World.grownBy.refl w3 _) aL bW
 have yU:u.ownBlock≠some b:=fun e=>GK b e hbl
 refine ⟨aI hown (fun k e=>?_),by simpa [cG] using bB,p7 GK hg (World.grownBy.refl w3 _) bW,qB GK hg (World.grownBy.refl w3 _) aL,(k3 b (aD b8) yU).trans b8,?_⟩
 ·exact k3 k (aJ hown k e) (nF hown hu (by decide) k e)
 ·refine eN.reY (fun k _ h=>?_) (k1 (eN.loc s _ _) (eN.reY (fun k _ h=>?_) oO))
  ·rcases h with (h | h) | h
   ·exact Or.inl (Or.inl h)
   ·exact Or.inr h
   ·exact Or.inl (Or.inr h)
  ·rcases h with (h | h) | h
   ·exact Or.inl (Or.inl h)
   ·exact Or.inr h
   ·exact Or.inl (Or.inr h)
theorem JC (s:ByteArray) (j:Nat):(decide (pe s j=47)||decide (pe s j=126)||decide (pe s j=40))=lA (pk s j):=by
 have h1:=eQ (s:=s) (i:=j) (c:=47) (by decide)
 have h2:=eQ (s:=s) (i:=j) (c:=126) (by decide)
 have h3:=eQ (s:=s) (i:=j) (c:=40) (by decide)
 rw [Bool.eq_iff_iff]
 simp only [Bool.or_eq_true,decide_eq_true_eq,h1,h2,h3,lA,oD,List.any_cons,List.any_nil,beq_iff_eq]
 simp only [Bool.false_eq_true,or_false]
 constructor
 ·rintro ((h | h) | h) <;> rw [h] <;> decide
 ·rintro (h | h | h)
  ·exact Or.inl (Or.inl h.symm)
  ·exact Or.inl (Or.inr h.symm)
  ·exact Or.inr h.symm
def DY (s:ByteArray) (b i0:Nat):Prop:=
 ∀ (w:World) (i:Nat),i0<=i->w.heap[b]? = some (eL s i)->i<=s.size->∀ n,4*(s.size-i)+3<=n->
  Calls Tryz.prog 123 #[.pointer (some ⟨b,0,none⟩)] w fun e w'=>nV b s w e w' ((bI s n (aF s i)).map fun x=>joinRow x.1 x.2)
theorem YO {s:ByteArray} {b i0:Nat} (hs:s.size<=120) (Q7:T0 s b i0):DY s b i0:=by
 intro w i h0 h hi n hn
 obtain ⟨i1,lW,hz0,hz1,hz2⟩:=info_parts Tryz.infoLensP
 obtain ⟨i2,GU,wD,nL,xX⟩:=info_parts Tryz.infoInt
 generalize hr:bI s n (aF s i)=r
 have hbl:=aD h
 have H0:Hid (LX w b s i r (fun m j=>bI s m (aF s j)) 3 (s.size-i+1) (.slice none 0 0) (.slice none 0 0) w):=by
  refine ⟨[],[],[],i,n,World.ownsRow_nil _ _ _ _,(by intro k hk;cases hk),World.ownsRow_nil _ _ _ _,(by intro k hk;cases hk),World.grownBy.refl _ _,h,by rw [eN];trivial,?_,hn,Nat.le_refl _,hi,by omega,by simp,by simp⟩
  show r=cN.map _ (bI s n (aF s i))
  rw [hr];cases r <;> rfl
 have HD:=aB Q7
 clear h hr hn Q7
 go_enter Tryz.func123,Tryz.ntmps123
 go_wp2_with fail
 go_loopg [3,4] (s.size-i+1) (fun gk vv uu wv=>LX w b s i r (fun m j=>bI s m (aF s j)) 3 gk vv uu wv)
 case atStart=>exact aA H0
 case round=>
  clear H0
  obtain ⟨gs,ts,ps,j,m,hown,rT,hu,GK,hg,yV,oO,hr,hm,kD,hj,fW,eC,hpl⟩:=hrel
  obtain ⟨m,rfl⟩:∃ m',m=m'+1:=⟨m-1,by omega⟩
  obtain ⟨ao,cp,rfl⟩:=aG hown
  obtain ⟨aj,cj,rfl⟩:=aG hu
  have HIt:=aB (aA HD wr j (by omega) yV hj m (by omega))
  have HF:=aB (And.intro hown (And.intro rT (And.intro hu (And.intro GK (And.intro hg (And.intro oO hr))))))
  clear hown rT hu GK hg yV oO hr
  go_wp2_with fail
  refine (aA HIt).mono ?_
  rintro e w2 fN
  cases hg:dT s m (aF s j) with
  | err p=>
   rw [hg] at fN
   obtain ⟨hp,hg2,cH,rfl⟩:=fN
   have HR:Hid (r = .err p):=by
    show r=_
    rw [(aA HF).2.2.2.2.2.2,bI,hg]
    rfl
   clear hg HIt
   go_wp2
   go_ret
   rw [aA HR]
   exact ⟨hp,(aA HF).2.2.2.2.1.trans hg2,cH,rfl⟩
  | ok t j1=>
   rw [hg] at fN
   obtain ⟨j',hj',hsk,hg2,cH,g,rfl,hT⟩:=fN
   have hjj:=(DL s m).2.1 _ _ _ hg
   have aH9:=iP s j
   have hst:=II hg
   have iS:j1<=s.size:=by rw [← hsk];exact (dK s j' hj').2
   have HR:Hid (r=if lA (pk s j1)=true then (bI s m j1).map (fun x=>(ts++t::x.1,ps++j1::x.2)) else .ok (ts++[t],ps) j1):=by
    show r=_
    rw [(aA HF).2.2.2.2.2.2,bI,hg]
    simp only [cN.bind]
    split
    ·rw [cN.map_map]
    ·simp [cN.map]
   obtain ⟨hown,rT,hu,GK,yY,oO,_⟩:=aA HF
   have yU:(Value.slice ao gs.length cp).ownBlock≠some b:=fun e=>rT b e hbl
   have hown2:w2.ownsRow 0 54 1 (.slice ao gs.length cp) gs.length (bD gs):=aI hown (fun k e=>bE hg2 k (aJ hown k e) (fun e'=>yU (by rw [e,e'])))
   have TX:gs.length+1<=1000:=by omega
   have aEL:ps.length+1<=1000:=by omega
   have HK:=aB (And.intro hg2 (And.intro hT cH))
   clear hg HIt hT cH hown oO yY hg2 rT hu GK
   go_wp2_with (at_builtin;refine wpList_append_lies _ rfl (.tmp 10) (.tmp 12) 115 rfl 0 54 i1 _ 1 8 Tryz.underlying115 lW hz0 hz1 hz2 rfl (by decide) (.slice ao gs.length cp) gs.length (bD gs) rfl (hown2.alloc _) ⟨w2.heap.size,0,none⟩ 1 1 [.pointer (some ⟨g,0,none⟩)] rfl rfl (World.news_of_block (cs := #[.pointer (some ⟨g,0,none⟩)]) (heap_alloc_new w2 _)) (by simp [Value.oneCell']) (by omega) (by unfold maxLen;omega) (by omega) (by omega) (w2.heap.size+1) (by simp) ?_)
   intro g5 cap w5 bB aL bW gH
   have HP:=aB (O7 hbl (aA HF).1 (aA HF).2.1 (aA HF).2.2.1 (aA HF).2.2.2.1 (aA HF).2.2.2.2.1 (aA HF).2.2.2.2.2.1 (aA HK).1 (aA HK).2.2 (aA HK).2.1 bB aL bW)
   have HU:=aB (aA HF).2.2.2.1
   have HA:=aB (QV (aA HP).2.2.2.2.1 hs hj')
   rw [hsk,JC] at HA
   clear bB aL bW hown2 HF HK
   cases hat:lA (pk s j1) with
   | true=>
    rw [hat] at HA
    rw [if_pos hat] at HR
    clear hat
    go_wp2_with fail
    refine (aA HA).mono ?_
    rintro e w6 ⟨rfl,h6,g6⟩
    have c1:=aC h6 1
    simp at c1
    obtain ⟨k1,k2,k3,k4,k5,k6⟩:=aA HP
    have old:∀ k,k<w5.heap.size->¬ k<w.heap.size->w6.heap[k]? = w5.heap[k]? := fun k hk hy=>bE g6 k hk (fun e=>hy (by omega))
    have hu6:w6.ownsRow 0 3 1 (.slice aj ps.length cj) ps.length (cG ps):=aI k3 (fun k e=>old k (aJ k3 k e) (aA HU k e))
    have HP6:=aB (And.intro (aI k1 (fun k e=>old k (aJ k1 k e) (k2 k e))) (And.intro k2 (And.intro (k4.trans g6) (And.intro (eN.kept (fun k hk hy=>old k hk (fun h=>hy (Or.inl (Or.inl h)))) k6) h6))))
    clear h6 g6 k1 k2 k3 k4 k5 k6 old HP
    go_wp2_with (at_builtin;refine wpList_append_lies _ rfl (.tmp 20) (.tmp 25) 80 rfl 0 3 i2 _ 1 8 Tryz.underlying80 GU wD nL xX rfl (by decide) (.slice aj ps.length cj) ps.length (cG ps) rfl (hu6.alloc _) ⟨w6.heap.size,0,none⟩ 1 1 [.int .i64 (j1:Int)] rfl rfl (World.news_of_block (cs := #[.int .i64 (j1:Int)]) (heap_alloc_new w6 _)) (by simp [Value.oneCell']) (by omega) (by unfold maxLen;omega) (by omega) (by omega) (w6.heap.size+1) (by simp) ?_)
    intro g7 cap7 w7 kC dP rJ aH4
    go_wp2_with fail
    go_roundg (s.size-j)
    case measure=>exact fW
    case rel=>
     obtain ⟨q1,q2,q3,q4,q5⟩:=aA HP6
     obtain ⟨r1,r2,r3,r4,r5,r6⟩:=A7 (gs:=gs++[g]) hbl q1 q2 hu6 (aA HU) q3 q4 q5 kC dP rJ
     refine ⟨gs++[g],ts++[t],ps++[j1],j1,m,r1,q2,r2,r3,r4,r5,r6,?_,by omega,by omega,iS,by omega,by simp;omega,by simp;omega⟩
     rw [aA HR]
     simp [hst]
   | false=>
    rw [hat] at HA
    rw [if_neg (by rw [hat];decide)] at HR
    clear hat
    go_wp2_with fail
    refine (aA HA).mono ?_
    rintro e w6 ⟨rfl,h6,g6⟩
    obtain ⟨k1,k2,k3,k4,k5,k6⟩:=aA HP
    have old:∀ k,k<w5.heap.size->¬ k<w.heap.size->w6.heap[k]? = w5.heap[k]? := fun k hk hy=>bE g6 k hk (fun e=>hy (by omega))
    have HJ:=aB (KB (s:=s) (w:=w6) (Y:=fun k=>k<w.heap.size) (l:=ts++[t]) 5 (Or.inl rfl) ⟨aI k1 (fun k e=>old k (aJ k1 k e) (k2 k e)),k2⟩ ⟨aI k3 (fun k e=>old k (aJ k3 k e) (aA HU k e)),aA HU⟩ (eN.kept old (eN.reY (fun k _ hk=>Or.inl (Or.inl hk)) k6)) (fun k hk=>Nat.lt_of_lt_of_le hk (k4.trans g6).size) (by simp;omega))
    have H6:=aB (And.intro (k4.trans g6) h6)
    clear k1 k2 k3 k4 k5 k6 old h6 g6
    go_wp2_with fail
    refine (aA HJ).mono ?_
    rintro e w7 ⟨g7,rfl,EK,hT7⟩
    go_wp2
    go_ret
    rw [aA HR]
    exact ⟨iS,(aA H6).1.andThen EK (fun k e=>by cases e),(EK.block b (aD (aA H6).2) (by simp)).trans (aA H6).2,g7,rfl,hT7⟩
theorem QP {s:ByteArray} {b i0:Nat} (hs:s.size<=120) (hrow:DY s b i0):mP s b i0:=by
 intro w i h0 h hi n hn
 obtain ⟨i1,lW,hz0,hz1,hz2⟩:=info_parts Tryz.infoLensP
 obtain ⟨i2,GU,wD,nL,xX⟩:=info_parts Tryz.infoInt
 generalize hr:aV s n i=r
 have hbl:=aD h
 have H0:Hid (LX w b s i r (aV s) 4 (s.size-i+1) (.slice none 0 0) (.slice none 0 0) w):=by
  refine ⟨[],[],[],i,n,World.ownsRow_nil _ _ _ _,(by intro k hk;cases hk),World.ownsRow_nil _ _ _ _,(by intro k hk;cases hk),World.grownBy.refl _ _,h,by rw [eN];trivial,?_,hn,Nat.le_refl _,hi,by omega,by simp,by simp⟩
  rw [hr];cases r <;> rfl
 have HD:=aB hrow
 clear h hr hn hrow
 go_enter Tryz.func80,Tryz.ntmps80
 go_wp2_with fail
 go_loopg [3,4] (s.size-i+1) (fun gk vv uu wv=>LX w b s i r (aV s) 4 gk vv uu wv)
 case atStart=>exact aA H0
 case round=>
  clear H0
  obtain ⟨gs,ts,ps,j,m,hown,rT,hu,GK,hg,yV,oO,hr,hm,kD,hj,fW,eC,hpl⟩:=hrel
  obtain ⟨m,rfl⟩:∃ m',m=m'+1:=⟨m-1,by omega⟩
  obtain ⟨ao,cp,rfl⟩:=aG hown
  obtain ⟨aj,cj,rfl⟩:=aG hu
  have HIt:=aB (aA HD wr j (by omega) yV hj m (by omega))
  have HF:=aB (And.intro hown (And.intro rT (And.intro hu (And.intro GK (And.intro hg (And.intro oO hr))))))
  clear hown rT hu GK hg yV oO hr
  go_wp2_with fail
  refine (aA HIt).mono ?_
  rintro e w2 fN
  cases hg:bI s m (aF s j) with
  | err p=>
   rw [hg] at fN
   obtain ⟨hp,hg2,cH,rfl⟩:=fN
   have HR:Hid (r = .err p):=by
    show r=_
    rw [(aA HF).2.2.2.2.2.2,aV,hg]
    rfl
   clear hg HIt
   go_wp2
   go_ret
   rw [aA HR]
   exact ⟨hp,(aA HF).2.2.2.2.1.trans hg2,cH,rfl⟩
  | ok x j1=>
   rw [hg] at fN
   obtain ⟨iS,hg2,cH,g,rfl,hT⟩:=fN
   have hjj:=(DL s m).2.2.1 _ _ _ hg
   have aH9:=iP s j
   have hst:=DM hg
   have HR:Hid (r=if pk s j1=124 then (aV s m (j1+1)).map (fun y=>(ts++joinRow x.1 x.2::y.1,ps++j1::y.2)) else .ok (ts++[joinRow x.1 x.2],ps) j1):=by
    show r=_
    rw [(aA HF).2.2.2.2.2.2,aV,hg]
    simp only [cN.bind]
    split
    ·rw [cN.map_map]
    ·simp [cN.map]
   have hT':LR s w2 (fun k=>k<wr.heap.size) (joinRow x.1 x.2) g:=hT
   generalize joinRow x.1 x.2=t at *
   obtain ⟨hown,rT,hu,GK,yY,oO,_⟩:=aA HF
   have yU:(Value.slice ao gs.length cp).ownBlock≠some b:=fun e=>rT b e hbl
   have hown2:w2.ownsRow 0 54 1 (.slice ao gs.length cp) gs.length (bD gs):=aI hown (fun k e=>bE hg2 k (aJ hown k e) (fun e'=>yU (by rw [e,e'])))
   have TX:gs.length+1<=1000:=by omega
   have aEL:ps.length+1<=1000:=by omega
   have HK:=aB (And.intro hg2 (And.intro hT' cH))
   clear hg HIt hT hT' cH hown oO yY hg2 rT hu GK
   go_wp2_with (at_builtin;refine wpList_append_lies _ rfl (.tmp 10) (.tmp 12) 115 rfl 0 54 i1 _ 1 8 Tryz.underlying115 lW hz0 hz1 hz2 rfl (by decide) (.slice ao gs.length cp) gs.length (bD gs) rfl (hown2.alloc _) ⟨w2.heap.size,0,none⟩ 1 1 [.pointer (some ⟨g,0,none⟩)] rfl rfl (World.news_of_block (cs := #[.pointer (some ⟨g,0,none⟩)]) (heap_alloc_new w2 _)) (by simp [Value.oneCell']) (by omega) (by unfold maxLen;omega) (by omega) (by omega) (w2.heap.size+1) (by simp) ?_)
   intro g5 cap w5 bB aL bW gH
   have HP:=aB (O7 hbl (aA HF).1 (aA HF).2.1 (aA HF).2.2.1 (aA HF).2.2.2.1 (aA HF).2.2.2.2.1 (aA HF).2.2.2.2.2.1 (aA HK).1 (aA HK).2.2 (aA HK).2.1 bB aL bW)
   have HU:=aB (aA HF).2.2.2.1
   clear bB aL bW hown2 HF HK
   by_cases mF:pk s j1=124
   ·have V9:j1<s.size:=bY (by rw [mF];decide)
    have HA:=aB (iN 124 (by decide) (by decide) (aA HP).2.2.2.2.1 hs iS (by rw [hst];exact (eQ (by decide)).2 mF))
    rw [hst] at HA
    rw [if_pos mF] at HR
    clear mF
    go_wp2_with fail
    refine (aA HA).mono ?_
    rintro e w6 ⟨rfl,h6,g6⟩
    have c1:=aC h6 1
    simp at c1
    obtain ⟨k1,k2,k3,k4,k5,k6⟩:=aA HP
    have old:∀ k,k<w5.heap.size->¬ k<w.heap.size->w6.heap[k]? = w5.heap[k]? := fun k hk hy=>bE g6 k hk (fun e=>hy (by omega))
    have hu6:w6.ownsRow 0 3 1 (.slice aj ps.length cj) ps.length (cG ps):=aI k3 (fun k e=>old k (aJ k3 k e) (aA HU k e))
    have HP6:=aB (And.intro (aI k1 (fun k e=>old k (aJ k1 k e) (k2 k e))) (And.intro k2 (And.intro (k4.trans g6) (And.intro (eN.kept (fun k hk hy=>old k hk (fun h=>hy (Or.inl (Or.inl h)))) k6) h6))))
    clear h6 g6 k1 k2 k3 k4 k5 k6 old HP
    go_wp2_with (at_builtin;refine wpList_append_lies _ rfl (.tmp 20) (.tmp 26) 80 rfl 0 3 i2 _ 1 8 Tryz.underlying80 GU wD nL xX rfl (by decide) (.slice aj ps.length cj) ps.length (cG ps) rfl (hu6.alloc _) ⟨w6.heap.size,0,none⟩ 1 1 [.int .i64 (j1:Int)] rfl rfl (World.news_of_block (cs := #[.int .i64 (j1:Int)]) (heap_alloc_new w6 _)) (by simp [Value.oneCell']) (by omega) (by unfold maxLen;omega) (by omega) (by omega) (w6.heap.size+1) (by simp) ?_)
    intro g7 cap7 w7 kC dP rJ aH4
    go_wp2_with fail
    go_roundg (s.size-j)
    case measure=>exact fW
    case rel=>
     obtain ⟨q1,q2,q3,q4,q5⟩:=aA HP6
     obtain ⟨r1,r2,r3,r4,r5,r6⟩:=A7 (gs:=gs++[g]) hbl q1 q2 hu6 (aA HU) q3 q4 q5 kC dP rJ
     refine ⟨gs++[g],ts++[t],ps++[j1],j1+1,m,r1,q2,r2,r3,r4,r5,r6,?_,by omega,by omega,V9,by omega,by simp;omega,by simp;omega⟩
     rw [aA HR]
     simp
   ·have HA:=aB (iO 124 (by decide) (by decide) (aA HP).2.2.2.2.1 hs iS (by rw [hst];exact fun e=>mF ((eQ (by decide)).1 e)))
    rw [hst] at HA
    rw [if_neg mF] at HR
    clear mF
    go_wp2_with fail
    refine (aA HA).mono ?_
    rintro e w6 ⟨rfl,h6,g6⟩
    obtain ⟨k1,k2,k3,k4,k5,k6⟩:=aA HP
    have old:∀ k,k<w5.heap.size->¬ k<w.heap.size->w6.heap[k]? = w5.heap[k]? := fun k hk hy=>bE g6 k hk (fun e=>hy (by omega))
    have HJ:=aB (KB (s:=s) (w:=w6) (Y:=fun k=>k<w.heap.size) (l:=ts++[t]) 6 (Or.inr rfl) ⟨aI k1 (fun k e=>old k (aJ k1 k e) (k2 k e)),k2⟩ ⟨aI k3 (fun k e=>old k (aJ k3 k e) (aA HU k e)),aA HU⟩ (eN.kept old (eN.reY (fun k _ hk=>Or.inl (Or.inl hk)) k6)) (fun k hk=>Nat.lt_of_lt_of_le hk (k4.trans g6).size) (by simp;omega))
    have H6:=aB (And.intro (k4.trans g6) h6)
    clear k1 k2 k3 k4 k5 k6 old h6 g6
    go_wp2_with fail
    refine (aA HJ).mono ?_
    rintro e w7 ⟨g7,rfl,EK,hT7⟩
    go_wp2
    go_ret
    rw [aA HR]
    exact ⟨iS,(aA H6).1.andThen EK (fun k e=>by cases e),(EK.block b (aD (aA H6).2) (by simp)).trans (aA H6).2,g7,rfl,hT7⟩
theorem O4 {s:ByteArray} {b:Nat} (hs:s.size<=120):∀ d i0,s.size+1-i0<=d->mP s b i0
 | 0,i0,hd=>fun w i h0 _ hi=>by omega
 | d+1,i0,hd=>QP hs (YO hs (QQ hs (MR hs (O4 hs d (i0+1) (by omega)))))
theorem aE2 {s:ByteArray} {b:Nat} (hs:s.size<=120):mP s b 0:=O4 hs (s.size+1) 0 (by omega)
def OV (s:ByteArray) (w:World) (e:Ending) (w':World) (r:cN (List LT×List Nat)):Prop:=
 w.grownBy w' none/\match r with
  | .err p=>e = .returned (.tuple #[.pointer none,.int .i64 (p:Int)])
  | .ok x j=>(j<s.size/\e = .returned (.tuple #[.pointer none,.int .i64 (j:Int)]))\/
   (j=s.size/\∃ g,e = .returned (.tuple #[.pointer (some ⟨g,0,none⟩),.int .i64 0])/\LR s w' (fun k=>k<w.heap.size) (joinAlt x.1 x.2) g)
theorem aE0 {w:World} {s:ByteArray} (hs:s.size<=120):Calls Tryz.prog 52 #[.string s] w fun e w'=>OV s w e w' (aV s (6*s.size+5) 0):=by
 have HL:=aB (aE2 (b:=w.heap.size) hs (w.alloc (eL s 0)) 0 (Nat.zero_le _) (heap_alloc_new w _) (Nat.zero_le _) (6*s.size+5) (by omega))
 have hst:∀ x j,aV s (6*s.size+5) 0 = .ok x j->aF s j=j:=fun x j h=>qK h
 generalize aV s (6*s.size+5) 0=r at *
 go_enter Tryz.func52,Tryz.ntmps52
 go_wp2_with fail
 refine (aA HL).mono ?_
 rintro e w1 oV
 have hg0:∀ W,(w.alloc (eL s 0)).grownBy W (some w.heap.size)->w.grownBy W none:=fun W h=>(World.grownBy_alloc w _ none).andThen h (fun k e=>Or.inl (by cases e;exact Nat.le_refl _))
 cases r with
 | err p=>
  obtain ⟨hp,hg,hq,rfl⟩:=oV
  have c1:=aC hq 1
  simp at c1
  have HG:=aB (hg0 _ hg)
  clear hq hg HL hst hg0
  go_wp2_with fail
  go_region
  all_goals
   go_wp2
   go_ret2
   exact ⟨(aA HG).trans (aU _ _),rfl⟩
 | ok x j=>
  obtain ⟨hj,hg,hq,g,rfl,hT⟩:=oV
  have hsk:=hst x j rfl
  have HPk:=aB (AZ hq hs hj)
  rw [hsk] at HPk
  have HT:=aB (And.intro hg hT)
  have Hg0:=aB hg0
  clear hg hT hst hsk HL hq hg0
  by_cases hlt:j<s.size
  ·have hpe:(pe s j != -1)=true:=by rw [bne_iff_ne];simp only [pe,hlt,if_pos];have:=(O8 s j).1;omega
   generalize pe s j=a at *
   go_wp2_with fail
   refine (aA HPk).mono ?_
   rintro e w2 ⟨rfl,h2,g2⟩
   have c1:=aC h2 1
   simp at c1
   go_wp2_with fail
   go_region
   all_goals
    go_wp2
    go_ret2
    exact ⟨(aA Hg0 _ ((aA HT).1.trans g2)).trans (aU _ _),Or.inl ⟨hlt,rfl⟩⟩
  ·have hpe:pe s j = -1:=by simp [pe,hlt]
   rw [hpe] at HPk
   go_wp2_with fail
   refine (aA HPk).mono ?_
   rintro e w2 ⟨rfl,h2,g2⟩
   go_wp2
   go_ret2
   obtain ⟨hg,hT⟩:=aA HT
   refine ⟨aA Hg0 _ (hg.trans g2),Or.inr ⟨by omega,g,rfl,?_⟩⟩
   have hT':=LR.reY (Z:=fun k=>k<w.heap.size\/k=w.heap.size) (fun k _ hk=>by simp;omega) hT
   exact LR.reY (fun k _ hk=>Or.inl hk) (LR.kept (fun k hk hz=>bE g2 k hk (fun e=>hz (Or.inr e))) hT')
end Go.Proofs.YtlljggefbngkeaaGreatDoor
