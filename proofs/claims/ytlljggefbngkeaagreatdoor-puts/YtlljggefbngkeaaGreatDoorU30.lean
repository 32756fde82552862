import Derived.Test.YtlljggefbngkeaaGreatDoorU27
import Derived.Test.YtlljggefbngkeaaGreatDoorRows
import Derived.Test.YtlljggefbngkeaaGreatDoorTie
import Derived.Test.YtlljggefbngkeaaGreatDoorCards
import Derived.WalkKit
import Derived.ProofKit
import Derived.OpenShut
import Derived.ShutString
import Derived.LaidLaws
import Derived.LaidHandle
import Derived.Lib.LaidTab
import Derived.Deep.DeepHandedRow
import Derived.SevenTiedAt
namespace Go.Proofs.YtlljggefbngkeaaGreatDoor
open Go.ChangeShapes Go.WideShapes Go.ChangeAt Go.RowKit
open Go.ChangeMaps (open_string shut_string)
theorem yN:ownKnob Tryz.prog.godebug=none:=by kernel_rfl
theorem O0:Tryz.prog.globalNamed "math/bits.deBruijn64tab"=some 1:=by kernel_rfl
theorem QL:(Tryz.prog.globals[1]?).map (·.type)=some 249:=by kernel_rfl
theorem EU:Tryz.prog.cellsOf 5=1:=by kernel_rfl
theorem MN:Tryz.prog.cellsOf 249=64:=by kernel_rfl
def YK:List Int:=Lib.deBruijn64tab.map fun n:Nat=>(n:Int)
theorem rU {W:World} (h:laidMetH Tryz.prog [("math/bits.deBruijn64tab",Rows.laid_math_bits_deBruijn64tab)] W):nU W:=by
 have h':laidMet Tryz.prog [("math/bits.deBruijn64tab",Lib.tabData .u8 YK)] W:=h
 have hT:=Lib.tabIs_of_head O0 QL Tryz.underlying249 Tryz.underlying5 EU MN h'
 intro j hj
 have:=hT.cell O0 j (by rw [YK,List.length_map];exact hj)
 rw [this]
 have fR:j<Lib.deBruijn64tab.length:=hj
 simp [YK,List.getD,fR]
noncomputable def jE (os:Os):World:=
 {World.holding Tryz.prog os ⟨#[],#[],[]⟩ with heap:=(World.holding Tryz.prog os ⟨#[],#[],[]⟩).heap.modify 1 fun
   | .cells _ t frozen => .cells (YK.map fun z=>Value.int .u8 z).toArray t frozen
   | o=>o}
theorem oS (os:Os) (args:Array Value):laidMetH Tryz.prog [("math/bits.deBruijn64tab",Rows.laid_math_bits_deBruijn64tab)] ((jE os).forCall (fun _ _=>0) ⟨#[],args,[]⟩).memory:=by
 have h:laidMet Tryz.prog [("math/bits.deBruijn64tab",Rows.laid_math_bits_deBruijn64tab)] ((jE os).forCall (fun _ _=>0) ⟨#[],args,[]⟩).memory:=laidMet_of_run' 8 (by kernel_rfl) (by kernel_rfl)
 exact h
theorem DB {W W':World} (h:W.grownBy W' none) (may:MemPlace->Prop):W.keptBut W' may:=by
 refine ⟨h.os,h.output,fun i hi=>?_⟩
 rw [h.block i hi (by simp)]
 split
 ·rename_i h1 h2
  rw [h1] at h2
  cases h2
  exact ⟨rfl,rfl,rfl,fun _ _=>rfl⟩
 ·rename_i h1 h2
  rw [h1] at h2
  cases h2
  exact Or.inr ⟨rfl,rfl⟩
 ·rfl
theorem vF {H:Type} {enc:TypeId×Value->H} {P:Program} {f:Func} {s:ChangeSpec} {apart cR aAH again:Bool} {W W':World} {args:Array Value} {v:Value} {ds gs:List (DataW H)}
  (hW:DataW.Whole enc P f.params.toList s.vars apart W args.toList ds gs [])
  (hres:∀ (b:Nat) (sp:Nat->Bool) (hd:Bool),DataW.TrodAll enc P W' b sp hd f.resultTypes.toList (v.resultList f.resultTypes.size) (s.fn H (ds++gs)).results [])
  (CW:∀ sp:Nat->Bool,DataW.TrodAll enc P W' 0 sp true f.params.toList args.toList (s.fn H (ds++gs)).args [])
  (aBD:∀ sp:Nat->Bool,DataW.TrodVars enc P W' sp s.vars (s.fn H (ds++gs)).vars [])
  (hk:W.grownBy W' none)
  (gG:∀ (j:Nat) (t:TypeId) (r:Value),f.resultTypes[j]? = some t->(v.resultList f.resultTypes.size)[j]? = some r->Value.okWide P W' .any 0 t r):
  s.post enc P f apart cR aAH again W args v W':=by
 refine ⟨ds,gs,[],[],[],[],hW,hres _ _ _,CW _,aBD _,DB hk _,fun _=>?_⟩
 refine ⟨gG,_,_,([]++[])++[],⟨[]++[],[],trodAll_append (CW _) (hres _ _ _),aBD _,rfl,?_,?_⟩,?_⟩
 ·intro b off hp
  cases hp
 ·intro ha
  simp
 ·intro p hp _
  simp at hp
end Go.Proofs.YtlljggefbngkeaaGreatDoor
