/- The walk of the law LocksNil. -/
import Derived.Test.YtimcihfngnggaaaDoorL11NL
namespace Go.Proofs.YtimcihfngnggaaaDoor
open Go.RowKit Go.Joins Go.Maps Go.Shelf
set_option linter.unusedVariables false
set_option linter.unusedSimpArgs false

set_option maxRecDepth 100000 in
set_option maxHeartbeats 4000000 in
theorem nil_law (tx : Int) (o : Ob) (w : World) (hL : LibW w) :
    Calls Tryd.prog 8 #[.int .i64 tx, o.v] w fun e w' => e = .returned (.bool true) ∧ Below w.heap.size w w' := by
  have hB0 : Below w.heap.size w (w.alloc o.box) := (Below.refl _ _).alloc (Nat.le_refl _) _
  have HO : Hid (BoxO (w.alloc o.box) w.heap.size o ∧ Below w.heap.size w (w.alloc o.box) ∧ LibW (w.alloc o.box)) := ⟨BoxO.new w o, hB0, hL.keep hB0⟩
  have hk : ∀ {W W' : World}, Hid (BoxO W w.heap.size o ∧ Below w.heap.size w W ∧ LibW W) → Below W.heap.size W W' → Hid (BoxO W' w.heap.size o ∧ Below w.heap.size w W' ∧ LibW W') := fun h hb => ⟨h.out.1.keep hb, keepA h.out.2.1 hb, h.out.2.2.keep hb⟩
  have hak := fun w => pask_nil tx o 3 false w
  have hhs := fun w => phas_nil w tx o 1
  clear hB0 hL
  obtain ⟨sb, tb, lb', ub, nb⟩ := o
  simp only [Ob.v] at hak hhs ⊢
  obtain ⟨x0, x1, x2, x3, x4⟩ := HO.out.1
  simp only at x0 x1 x2 x3 x4
  go_enter Tryd.func8, Tryd.ntmps8
  go_wp2_with fail
  refine (hak _).mono ?_
  rintro e w1 ⟨rfl, hb⟩
  have H1 := hk HO hb
  clear HO hb x0 x1 x2 x3 x4 hak
  go_wp2_with fail
  refine (alive_any _ H1.out.2.2).mono ?_
  rintro e w2 ⟨rfl, hb⟩
  have H2 := hk H1 hb
  clear H1 hb
  go_wp2_with fail
  refine (pend_nil _ _).mono ?_
  rintro e w3 ⟨rfl, hb⟩
  have H3 := hk H2 hb
  clear H2 hb
  go_wp2_with fail
  refine (pends_nil _ _).mono ?_
  rintro e w4 ⟨rfl, hb⟩
  have H4 := hk H3 hb
  clear H3 hb
  go_wp2_with fail
  refine (pwaits_nil _ _).mono ?_
  rintro e w5 ⟨rfl, hb⟩
  have H5 := hk H4 hb
  clear H4 hb
  obtain ⟨x0, x1, x2, x3, x4⟩ := H5.out.1
  simp only at x0 x1 x2 x3 x4
  go_wp2_with fail
  refine (hhs _).mono ?_
  rintro e w6 ⟨rfl, hb⟩
  have H6 := hk H5 hb
  clear H5 hb x0 x1 x2 x3 x4 hhs
  go_wp2_with fail
  refine (plist_nil _).mono ?_
  rintro e w7 ⟨rfl, rfl⟩
  go_wp2_with fail
  refine (pedges_nil _).mono ?_
  rintro e w8 ⟨rfl, hb⟩
  have H8 := hk H6 hb
  clear H6 hb
  go_wp2_with fail
  go_ret
  exact ⟨rfl, H8.out.2.1⟩
end Go.Proofs.YtimcihfngnggaaaDoor
