import Derived.Test.YtlljggefbngkeaaGreatDoorV18
import Derived.Test.YtlljggefbngkeaaGreatDoorV13
import Derived.Test.YtlljggefbngkeaaGreatDoorV06
import Derived.Test.YtlljggefbngkeaaGreatDoorV45
namespace Go.Proofs.YtlljggefbngkeaaGreatDoor
open Go.RowKit



/-- what the program's Print answers -/
def PrintPost (s : ByteArray) (w : World) (e : Ending) (w' : World) : Prop :=
  w.grownBy w' none ∧
  ((120 < s.size ∧ e = .returned (.tuple #[.string ⟨#[]⟩, .int .i64 1, .int .i64 0])) ∨
   (s.size ≤ 120 ∧ match gRows s (6 * s.size + 5) 0 with
     | .err p => e = .returned (.tuple #[.string ⟨#[]⟩, .int .i64 2, .int .i64 (p : Int)])
     | .ok x j => (j < s.size ∧ e = .returned (.tuple #[.string ⟨#[]⟩, .int .i64 2, .int .i64 (j : Int)])) ∨
        (j = s.size ∧ ∃ o, FirstW (dfltsL x.1) o ∧ match o with
          | some a => e = .returned (.tuple #[.string ⟨#[]⟩, .int .i64 3, .int .i64 (a : Int)])
          | none => e = .returned (.tuple #[.string (txt (formL s [32, 124, 32] x.1)), .int .i64 0, .int .i64 0]))))


set_option maxRecDepth 100000 in
set_option maxHeartbeats 1600000 in
theorem gprint (hH : HoldsSaid) (s : ByteArray) (w : World) (hm : s.size ≤ maxLen) :
    Calls Tryz.prog 27 #[.string s] w fun e w' => PrintPost s w e w' := by
  rcases Nat.lt_or_ge 120 s.size with hs | hs
  · have HR := hide (gread_long s w hs hm)
    go_enter Tryz.func27, Tryz.ntmps27
    go_wp2_with fail
    refine (unhide HR).mono ?_
    rintro e w1 ⟨rfl, rfl⟩
    go_wp2
    go_ret3
    exact ⟨World.grownBy.refl _ _, .inl ⟨hs, rfl⟩⟩
  · have HR := hide (gread_short hH s w hs)
    have hform : ∀ x j, gRows s (6 * s.size + 5) 0 = .ok x j → j = s.size → (form s (joinAlt x.1 x.2)).length ≤ 1000 := fun x j h hj => by
      rw [form_joinAlt]
      have := gRows_form (by omega) hs h
      omega
    have hpost : ∀ e w', (w.grownBy w' none ∧ (match gRows s (6 * s.size + 5) 0 with
       | .err p => e = .returned (.tuple #[.string ⟨#[]⟩, .int .i64 2, .int .i64 (p : Int)])
       | .ok x j => (j < s.size ∧ e = .returned (.tuple #[.string ⟨#[]⟩, .int .i64 2, .int .i64 (j : Int)])) ∨
          (j = s.size ∧ ∃ o, FirstW (dfltsL x.1) o ∧ match o with
            | some a => e = .returned (.tuple #[.string ⟨#[]⟩, .int .i64 3, .int .i64 (a : Int)])
            | none => e = .returned (.tuple #[.string (txt (formL s [32, 124, 32] x.1)), .int .i64 0, .int .i64 0])))) → PrintPost s w e w' := fun e w' h => ⟨h.1, .inr ⟨hs, h.2⟩⟩
    have HPost := hide hpost
    clear hpost
    generalize gRows s (6 * s.size + 5) 0 = r at *
    go_enter Tryz.func27, Tryz.ntmps27
    go_wp2_with fail
    refine (unhide HR).mono ?_
    rintro e w1 ⟨hg1, hP⟩
    cases r with
    | err p =>
      simp only at hP
      subst hP
      go_wp2
      go_ret3
      exact unhide HPost _ _ ⟨hg1, rfl⟩
    | ok x j =>
      simp only at hP
      rcases hP with ⟨hlt, rfl⟩ | ⟨hj, o, hF, hE⟩
      · clear hform HR
        go_wp2
        go_ret3
        exact unhide HPost _ _ ⟨hg1, .inl ⟨hlt, rfl⟩⟩
      · cases o with
        | some a =>
          simp only at hE
          subst hE
          clear hform HR
          go_wp2
          go_ret3
          exact unhide HPost _ _ ⟨hg1, .inr ⟨hj, some a, hF, rfl⟩⟩
        | none =>
          simp only at hE
          obtain ⟨g, rfl, hT⟩ := hE
          have HL := hide (lprint hT (Nat.le_trans (hform x j rfl hj) (by decide)))
          rw [form_joinAlt] at HL
          have HF := hide (And.intro hg1 hF)
          clear hform HR hT hg1 hF
          go_wp2_with fail
          refine (unhide HL).mono ?_
          rintro e w2 ⟨rfl, hB⟩
          go_wp2
          go_ret3
          refine unhide HPost _ _ ⟨?_, .inr ⟨hj, none, (unhide HF).2, rfl⟩⟩
          exact (unhide HF).1.trans ⟨hB.os, hB.tape, hB.output, hB.size, fun k hk _ => hB.block k hk⟩

end Go.Proofs.YtlljggefbngkeaaGreatDoor
