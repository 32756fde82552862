import Derived.Test.YtlljggefbngkeaaGreatDoorV13
import Derived.Test.YtlljggefbngkeaaGreatDoorV12
import Derived.Shelf.Strings.OnBuilder
namespace Go.Proofs.YtlljggefbngkeaaGreatDoor
open Go.RowKit Go.Shelf

def jren : Go.Shelf.Ren := ⟨fun | 156 => 110 | 165 => 145 | 166 => 84 | 169 => 55 | 240 => 130 | 241 => 163 | 276 => 153 | 277 => 174 | n => n, fun | 0 => 0 | 3 => 3 | 4 => 4 | 5 => 5 | 9 => 9 | 20 => 20 | 31 => 64 | 37 => 96 | 70 => 95 | 72 => 98 | 75 => 148 | 76 => 149 | 80 => 72 | 127 => 152 | 164 => 201 | n => n, fun | n => n⟩
theorem jlays : Go.Proofs.Lays.n156 Tryz.prog jren := {
  mixed := by kernel_rfl
  f156 := Tryz.func110.trans (congrArg some (by kernel_rfl))
  f165 := Tryz.func145.trans (congrArg some (by kernel_rfl))
  f166 := Tryz.func84.trans (congrArg some (by kernel_rfl))
  f169 := Tryz.func55.trans (congrArg some (by kernel_rfl))
  f240 := Tryz.func130.trans (congrArg some (by kernel_rfl))
  f241 := Tryz.func163.trans (congrArg some (by kernel_rfl))
  f276 := Tryz.func153.trans (congrArg some (by kernel_rfl))
  f277 := Tryz.func174.trans (congrArg some (by kernel_rfl))
  t0 := Tryz.underlying0
  a0 := Tryz.isAgg0
  z0 := Tryz.sizeOf0
  v0 := Tryz.zeroValue0
  t3 := Tryz.underlying3
  a3 := Tryz.isAgg3
  z3 := Tryz.sizeOf3
  v3 := Tryz.zeroValue3
  t4 := Tryz.underlying4
  a4 := Tryz.isAgg4
  z4 := Tryz.sizeOf4
  v4 := Tryz.zeroValue4
  t9 := Tryz.underlying9
  a9 := Tryz.isAgg9
  z9 := Tryz.sizeOf9
  v9 := Tryz.zeroValue9
  t20 := Tryz.underlying20
  a20 := Tryz.isAgg20
  z20 := Tryz.sizeOf20
  v20 := Tryz.zeroValue20
  t31 := Tryz.underlying64
  a31 := Tryz.isAgg64
  z31 := Tryz.sizeOf64
  v31 := Tryz.zeroValue64
  t37 := Tryz.underlying96
  a37 := Tryz.isAgg96
  z37 := Tryz.sizeOf96
  v37 := Tryz.zeroValue96
  t70 := Tryz.underlying95
  a70 := Tryz.isAgg95
  z70 := Tryz.sizeOf95
  v70 := Tryz.zeroValue95
  t72 := Tryz.underlying98
  a72 := Tryz.isAgg98
  z72 := Tryz.sizeOf98
  v72 := Tryz.zeroValue98
  t75 := Tryz.underlying148
  a75 := Tryz.isAgg148
  z75 := Tryz.sizeOf148
  v75 := Tryz.zeroValue148
  t76 := Tryz.underlying149
  a76 := Tryz.isAgg149
  z76 := Tryz.sizeOf149
  v76 := Tryz.zeroValue149
  t127 := Tryz.underlying152
  a127 := Tryz.isAgg152
  z127 := Tryz.sizeOf152
  v127 := Tryz.zeroValue152
  t164 := Tryz.underlying201
  a164 := Tryz.isAgg201
  z164 := Tryz.sizeOf201
  v164 := Tryz.zeroValue201 }
theorem jextra : Builder.Extra Tryz.prog jren := {
  sizeBuilder := by kernel_rfl
  liesBuilder := by kernel_rfl
  t5 := Tryz.underlying5
  a5 := Tryz.isAgg5
  z5 := Tryz.sizeOf5
  v5 := Tryz.zeroValue5
  infoByte := by kernel_rfl
  cellsByte := by kernel_rfl
  sizeByte := by kernel_rfl
  neB5 := by decide }

theorem join_empty (xs : List (List UInt8)) : Lib.join xs [] = xs.flatten := by
  cases xs with
  | nil => rfl
  | cons x r => rw [Lib.join_cons, Lib.joinTail, List.flatten_cons]; simp
theorem txts_data (l : List (List UInt8)) : (l.map txt).map (fun s => s.data.toList) = l := by
  rw [List.map_map]
  conv => rhs; rw [← List.map_id l]
  exact List.map_congr_left fun x _ => by simp [txt]

/-- strings.Join, with nothing between -/
theorem join_said {w : World} {sl : Value} {l : List (List UInt8)} (hown : w.ownsRow 0 9 1 sl l.length (strs_ l)) (hn : l.length ≤ 1000) (hl : l.flatten.length ≤ 1000000000000) :
    Calls Tryz.prog 110 #[sl, .string ⟨#[]⟩] w fun e w' => e = .returned (.string (txt l.flatten)) ∧ K0 w w' := by
  by_cases h0 : l.length = 0
  · obtain rfl : l = [] := List.eq_nil_of_length_eq_zero h0
    obtain ⟨ao, cp, rfl⟩ := own_slice hown
    refine (Any.strings_Join_none jlays jextra ao cp ⟨#[]⟩ w).mono ?_
    rintro e w' ⟨rfl, rfl⟩
    exact ⟨rfl, K0.refl _⟩
  · obtain ⟨_, (⟨_, h⟩ | ⟨vb, cap, cur, rfl, _, hvb, hcap, _, _, _⟩)⟩ := id hown
    · exact absurd h h0
    · have e1 : (Lib.join ((l.map txt).map (fun s => s.data.toList)) (ByteArray.mk #[]).data.toList) = l.flatten := by
        rw [txts_data]
        exact join_empty l
      have key := Any.strings_Join jlays jextra vb 0 cap (l.map txt) ⟨#[]⟩ w (fun j x hx => by
        have hj : j < l.length := by have := (List.getElem?_eq_some_iff.1 hx).1; rwa [List.length_map] at this
        rw [Nat.zero_add, hown.cellAt j (by omega)]
        rw [List.getElem?_map] at hx
        cases hu : l[j]? with
        | none => rw [hu] at hx; cases hx
        | some u => rw [hu] at hx; simp [strs_, hu]; exact Option.some.inj hx) (heap_lt hvb) (by rw [List.length_map]; omega) (by rw [List.length_map]; exact hcap) (by rw [e1]; omega)
      rw [List.length_map, e1] at key
      refine key.mono ?_
      rintro e w' ⟨rfl, hb⟩
      exact ⟨rfl, hb.os, hb.tape, hb.output, hb.size, fun k hk _ => hb.block k hk⟩

end Go.Proofs.YtlljggefbngkeaaGreatDoor
