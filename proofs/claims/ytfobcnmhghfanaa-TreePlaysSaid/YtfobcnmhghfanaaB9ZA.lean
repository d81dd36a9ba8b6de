/- What a tree is asked: Get, Next, Count. -/
import Derived.Test.YtfobcnmhghfanaaB9Y
namespace Go.Proofs.Ytfobcnmhghfanaa
open Go.RowKit Go.Shelf
set_option linter.unusedVariables false
set_option linter.unusedSimpArgs false

def getV (o : Option E) : Value := match o with | none => .tuple #[.int .i64 0, .bool false, .int .i64 92] | some e => .tuple #[.int .i64 e.num, .bool e.ghost, .int .i64 0]
def nextV (o : Option E) : Value := match o with | none => .tuple #[.string ByteArray.empty, .int .i64 0, .bool false, .int .i64 92] | some e => .tuple #[.string e.key, .int .i64 e.num, .bool e.ghost, .int .i64 0]
set_option maxHeartbeats 1000000 in
theorem tget_any {base : Nat} {w : World} {ro : Ro} {p : Value} {L : List E} (h : TreeAt base w ro p L) (key : ByteArray) :
    Calls Try.prog 20 #[p, .string key] w fun e w' => e = .returned (getV (getL L key)) ∧ Below w.heap.size w w' := by
  obtain ⟨r, nd, H, lv, dep, rfl, h⟩ := h
  have hf := find_any h.ts key
  have HT : Hid _ := h
  have hen := h.en
  clear h
  go_enter Try.func20, Try.ntmps20
  go_wp2_with fail
  refine hf.mono ?_
  clear hf
  rintro e w1 hO
  cases hO with
  | none_ he hb hn =>
    subst he
    rw [hen] at hn
    have HN : Hid _ := hn
    clear hn hen
    go_wp2
    refine bodyPost_ret (v := .tuple #[.int .i64 0, .bool false, .int .i64 92]) (by simp [results, Try.results20, go_sem]) rfl ?_
    exact ⟨by rw [HN.out]; rfl, hb⟩
  | some_ A p B i hi g n cap he hb hp hv hn hk =>
    subst he
    rw [hen] at hn
    have HN : Hid _ := hn
    have ts1 := HT.out.ts.below hb
    have hrow := ts1.mem.rowE p.2 (ts1.inn H (Nat.le_refl _) p (by rw [hp]; simp))
    rw [hv] at hrow
    obtain ⟨_, x2, x3⟩ := ent_cells hrow i hi
    clear hn hen hrow hv hk ts1
    generalize (nd p.2).es[i] = ee at *
    obtain ⟨k0, n0, g0⟩ := ee
    simp only at x2 x3
    go_wp2
    go_quiet (fail)
    go_wp2
    refine bodyPost_ret (v := .tuple #[.int .i64 n0, .bool g0, .int .i64 0]) (by simp [results, Try.results20, go_sem]) rfl ?_
    exact ⟨by rw [HN.out]; rfl, hb.trans ⟨rfl, rfl, rfl, Nat.le_refl _, fun _ _ => rfl⟩⟩
set_option maxHeartbeats 1000000 in
theorem tnext_any {base : Nat} {w : World} {ro : Ro} {p : Value} {L : List E} (h : TreeAt base w ro p L) (key : ByteArray) (is : Bool) :
    Calls Try.prog 19 #[p, .string key, .bool is] w fun e w' => e = .returned (nextV (nextL L key is)) ∧ Below w.heap.size w w' := by
  obtain ⟨r, nd, H, lv, dep, rfl, h⟩ := h
  have hf := seek_any h.ts key is
  have HT : Hid _ := h
  have hen := h.en
  clear h
  go_enter Try.func19, Try.ntmps19
  go_wp2_with fail
  refine hf.mono ?_
  clear hf
  rintro e w1 hO
  cases hO with
  | none_ he hb hn =>
    subst he
    rw [hen] at hn
    have HN : Hid _ := hn
    clear hn hen
    go_wp2
    refine bodyPost_ret (v := .tuple #[.string ByteArray.empty, .int .i64 0, .bool false, .int .i64 92]) (by simp [results, Try.results19, go_sem]; rfl) rfl ?_
    exact ⟨by rw [HN.out]; rfl, hb⟩
  | some_ A p B i hi g n cap he hb hp hv hn =>
    subst he
    rw [hen] at hn
    have HN : Hid _ := hn
    have ts1 := HT.out.ts.below hb
    have hrow := ts1.mem.rowE p.2 (ts1.inn H (Nat.le_refl _) p (by rw [hp]; simp))
    rw [hv] at hrow
    obtain ⟨x1, x2, x3⟩ := ent_cells hrow i hi
    clear hn hen hrow hv ts1
    generalize (nd p.2).es[i] = ee at *
    obtain ⟨k0, n0, g0⟩ := ee
    simp only at x1 x2 x3
    go_wp2
    go_quiet (fail)
    go_wp2
    refine bodyPost_ret (v := .tuple #[.string k0, .int .i64 n0, .bool g0, .int .i64 0]) (by simp [results, Try.results19, go_sem]) rfl ?_
    exact ⟨by rw [HN.out]; rfl, hb.trans ⟨rfl, rfl, rfl, Nat.le_refl _, fun _ _ => rfl⟩⟩
/-- The root's cells. -/
theorem root_cells {w : World} {r : Nat} {a b c d : Value} {t : TypeId} (h : w.heap[r]? = some (.cells [a, b, c, d].toArray t (0, 0))) : w.cell? ⟨r, 2, none⟩ = some c ∧ w.cell? ⟨r, 3, none⟩ = some d ∧ ∀ o, w.frozen? ⟨r, o, none⟩ = false :=
  ⟨by rw [cell_of_row w r 2 _ _ _ h]; rfl, by rw [cell_of_row w r 3 _ _ _ h]; rfl, frozen_row h⟩
theorem TreeIn.root {base : Nat} {w : World} {ro : Ro} {r : Nat} {nd : Nat → Nd} {H : Nat} {lv : Nat → List Br} {dep : Nat → Nat} {L : List E} (h : TreeIn base w ro r nd H lv dep L) : w.heap[r]? = some (.cells [(nd r).ve, (nd r).vb, .int .i64 (liveN L : Nat), .int .i64 (ghostN L : Nat)].toArray 54 (0, 0)) := by
  have := h.ts.mem.blk r h.ts.toTM.root
  rwa [h.ex, h.ty] at this
theorem tcount_any {base : Nat} {w : World} {ro : Ro} {p : Value} {L : List E} (h : TreeAt base w ro p L) :
    Calls Try.prog 11 #[p] w fun e w' => e = .returned (.tuple #[.int .i64 (liveN L : Nat), .int .i64 (ghostN L : Nat)]) ∧ Below w.heap.size w w' := by
  obtain ⟨r, nd, H, lv, dep, rfl, h⟩ := h
  obtain ⟨x1, x2, _⟩ := root_cells h.root
  clear h
  go_enter Try.func11, Try.ntmps11
  go_wp2
  go_quiet (fail)
  go_wp2
  refine bodyPost_ret (v := .tuple #[.int .i64 (liveN L : Nat), .int .i64 (ghostN L : Nat)]) (by simp [results, Try.results11, go_sem]) rfl ?_
  exact ⟨rfl, ⟨rfl, rfl, rfl, Nat.le_refl _, fun _ _ => rfl⟩⟩
end Go.Proofs.Ytfobcnmhghfanaa
