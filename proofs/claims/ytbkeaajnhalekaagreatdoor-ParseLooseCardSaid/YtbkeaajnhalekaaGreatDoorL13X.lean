/- The document's sign. -/
import Derived.Test.YtbkeaajnhalekaaGreatDoorL13C
import Derived.Test.YtbkeaajnhalekaaGreatDoorS13
namespace Go.Proofs.YtbkeaajnhalekaaGreatDoor
open Go.RowKit
set_option linter.unusedVariables false
set_option linter.unusedSimpArgs false

/-- What the document's word, number, text and sign come to. -/
def DTo (st : Stp) (i : Nat) (e : Ending) : Prop := match st with
  | .no er => e = .returned (.tuple #[.agg #[.int .i64 0, .string ⟨#[]⟩, .int .i64 0, .int .i64 0], .int .i64 0, .string (stB er)])
  | .tk k t v n => e = .returned (.tuple #[.agg #[.int .i64 k, .string ⟨t.toArray⟩, .int .i64 v, .int .i64 i], .int .i64 n, .string ⟨#[48, 48, 48, 48, 48]⟩])
  | .bl _ => False
theorem WdTo.d {s : ByteArray} {i : Nat} {e : Ending} (h : WdTo s i e) : DTo (wdS (rest s i)) i e := by
  unfold WdTo at h
  unfold wdS
  split at h
  · rename_i h32
    rw [if_pos h32]
    exact h
  · rename_i h32
    rw [if_neg h32]
    exact h
theorem NmTo.d {s : ByteArray} {i : Nat} {e : Ending} (h : NmTo s i e) : DTo (nmS (rest s i)) i e := by
  unfold NmTo at h
  generalize ho : nmS (rest s i) = o at *
  unfold nmS at ho
  split at ho
  · subst ho; exact h
  · split at ho
    · subst ho; exact h
    · subst ho; exact h
theorem pre_len {s g : ByteArray} {i : Nat} (h : ¬ i + g.size ≤ s.size) (hi : i ≤ s.size) : g.data.toList.isPrefixOf (rest s i) = false := by
  cases hp : g.data.toList.isPrefixOf (rest s i) with
  | false => rfl
  | true =>
    exfalso
    have := (List.isPrefixOf_iff_prefix.1 hp).length_le
    rw [rest_len] at this
    simp at this
    omega
theorem pre_ext {s g : ByteArray} {i : Nat} (h : i + g.size ≤ s.size) : ((s.extract i (i + g.size)).toList == g.toList) = g.data.toList.isPrefixOf (rest s i) := by
  rw [Lib.toList_data, Lib.toList_data, ext_take]
  have hgl : g.data.toList.length = g.size := by simp
  cases hp : g.data.toList.isPrefixOf (rest s i) with
  | true =>
    have := List.prefix_iff_eq_take.1 (List.isPrefixOf_iff_prefix.1 hp)
    rw [hgl] at this
    rw [← this]
    simp
  | false =>
    rw [beq_eq_false_iff_ne]
    intro e
    have : g.data.toList.isPrefixOf (rest s i) = true := by
      rw [List.isPrefixOf_iff_prefix, ← e]
      exact List.take_prefix _ _
    rw [this] at hp
    cases hp
theorem new_at2 (w : World) (o : Obj) {B : Nat} (h : B = w.heap.size) : (w.alloc o).heap[B]? = some o := by subst h; exact heap_alloc_new _ _
/-- The box of the answer, as it lies ahead of the answer. -/
theorem tok_box (w : World) (o : Obj) (W : World) (hW : Below ((w.alloc (.cells #[.int .i64 0, .string ⟨#[]⟩, .int .i64 0, .int .i64 0] 41)).alloc o).heap.size ((w.alloc (.cells #[.int .i64 0, .string ⟨#[]⟩, .int .i64 0, .int .i64 0] 41)).alloc o) W) : W.cell? ⟨w.heap.size, 0, none⟩ = some (.int .i64 0) ∧ W.cell? ⟨w.heap.size, 1, none⟩ = some (.string ⟨#[]⟩) ∧ W.cell? ⟨w.heap.size, 2, none⟩ = some (.int .i64 0) ∧ W.cell? ⟨w.heap.size, 3, none⟩ = some (.int .i64 0) ∧ (∀ o, W.frozen? ⟨w.heap.size, o, none⟩ = false) := by
  have e : W.heap[w.heap.size]? = some (.cells #[.int .i64 0, .string ⟨#[]⟩, .int .i64 0, .int .i64 0] 41) :=
    ((hW.block w.heap.size (by simp; omega)).trans ((((Below.refl _ _).alloc (Nat.le_refl _) o).block w.heap.size (by simp)))).trans (heap_alloc_new w _)
  refine ⟨by rw [cell_of_row W _ 0 _ _ _ e]; rfl, by rw [cell_of_row W _ 1 _ _ _ e]; rfl, by rw [cell_of_row W _ 2 _ _ _ e]; rfl, by rw [cell_of_row W _ 3 _ _ _ e]; rfl, fun o => by simp [World.frozen?, e]⟩
theorem sg_cells (w : World) (k : Nat) (hk : k < 16) (o : Obj) (W : World) (hW : Below ((w.alloc o).alloc (.cells #[.string ⟨#[60, 61]⟩, .string ⟨#[62, 61]⟩, .string ⟨#[60, 62]⟩, .string ⟨#[124, 124]⟩, .string ⟨#[40]⟩, .string ⟨#[41]⟩, .string ⟨#[44]⟩, .string ⟨#[46]⟩, .string ⟨#[59]⟩, .string ⟨#[61]⟩, .string ⟨#[60]⟩, .string ⟨#[62]⟩, .string ⟨#[43]⟩, .string ⟨#[45]⟩, .string ⟨#[42]⟩, .string ⟨#[47]⟩] 9)).heap.size ((w.alloc o).alloc (.cells #[.string ⟨#[60, 61]⟩, .string ⟨#[62, 61]⟩, .string ⟨#[60, 62]⟩, .string ⟨#[124, 124]⟩, .string ⟨#[40]⟩, .string ⟨#[41]⟩, .string ⟨#[44]⟩, .string ⟨#[46]⟩, .string ⟨#[59]⟩, .string ⟨#[61]⟩, .string ⟨#[60]⟩, .string ⟨#[62]⟩, .string ⟨#[43]⟩, .string ⟨#[45]⟩, .string ⟨#[42]⟩, .string ⟨#[47]⟩] 9)) W) : W.cell? ⟨w.heap.size + 1, k, none⟩ = some (.string ⟨(sgA k).toArray⟩) := by
  have e := (hW.block (w.heap.size + 1) (by simp)).trans (new_at2 (w.alloc o) _ (by simp))
  rw [cell_of_row W _ k _ _ _ e]
  refine lt16 (P := fun k => (#[Value.string ⟨#[60, 61]⟩, .string ⟨#[62, 61]⟩, .string ⟨#[60, 62]⟩, .string ⟨#[124, 124]⟩, .string ⟨#[40]⟩, .string ⟨#[41]⟩, .string ⟨#[44]⟩, .string ⟨#[46]⟩, .string ⟨#[59]⟩, .string ⟨#[61]⟩, .string ⟨#[60]⟩, .string ⟨#[62]⟩, .string ⟨#[43]⟩, .string ⟨#[45]⟩, .string ⟨#[42]⟩, .string ⟨#[47]⟩] : Array Value)[k]? = some (.string ⟨(sgA k).toArray⟩)) ?_ ?_ ?_ ?_ ?_ ?_ ?_ ?_ ?_ ?_ ?_ ?_ ?_ ?_ ?_ ?_ k hk <;> rfl
set_option maxHeartbeats 2000000 in
set_option maxRecDepth 100000 in
theorem sign_ref (s : ByteArray) (hs : s.size ≤ 10000) {i : Nat} (hi : i < s.size) (w : World) : Calls Tryz.prog 31 #[.string s, .int .i64 i] w fun e w' => DTo (sgS (rest s i)) i e ∧ Below w.heap.size w w' := by
  obtain ⟨o, ho⟩ : ∃ o, o = sgS (rest s i) := ⟨_, rfl⟩
  rw [← ho]
  have HOO := Go.Proofs.YtbkeaajnhalekaaGreatDoor.Hid.mk' ho
  clear ho
  go_enter Tryz.func31, Tryz.ntmps31
  go_wp2_with fail
  have HC := Go.Proofs.YtbkeaajnhalekaaGreatDoor.Hid.mk' (fun k hk W hW => sg_cells w k hk (.cells #[.int .i64 0, .string ⟨#[]⟩, .int .i64 0, .int .i64 0] 41) W hW)
  have hnew := fun W hW => tok_box w (.cells #[.string ⟨#[60, 61]⟩, .string ⟨#[62, 61]⟩, .string ⟨#[60, 62]⟩, .string ⟨#[124, 124]⟩, .string ⟨#[40]⟩, .string ⟨#[41]⟩, .string ⟨#[44]⟩, .string ⟨#[46]⟩, .string ⟨#[59]⟩, .string ⟨#[61]⟩, .string ⟨#[60]⟩, .string ⟨#[62]⟩, .string ⟨#[43]⟩, .string ⟨#[45]⟩, .string ⟨#[42]⟩, .string ⟨#[47]⟩] 9) W hW
  have HF := Go.Proofs.YtbkeaajnhalekaaGreatDoor.Hid.mk' hnew
  have HW : Hid (Below w.heap.size w ((w.alloc (.cells #[.int .i64 0, .string ⟨#[]⟩, .int .i64 0, .int .i64 0] 41)).alloc (.cells #[.string ⟨#[60, 61]⟩, .string ⟨#[62, 61]⟩, .string ⟨#[60, 62]⟩, .string ⟨#[124, 124]⟩, .string ⟨#[40]⟩, .string ⟨#[41]⟩, .string ⟨#[44]⟩, .string ⟨#[46]⟩, .string ⟨#[59]⟩, .string ⟨#[61]⟩, .string ⟨#[60]⟩, .string ⟨#[62]⟩, .string ⟨#[43]⟩, .string ⟨#[45]⟩, .string ⟨#[42]⟩, .string ⟨#[47]⟩] 9))) := ((Below.refl _ _).alloc (Nat.le_refl _) _).alloc (by simp) _
  clear hnew
  generalize (w.alloc (.cells #[.int .i64 0, .string ⟨#[]⟩, .int .i64 0, .int .i64 0] 41)).alloc (.cells #[.string ⟨#[60, 61]⟩, .string ⟨#[62, 61]⟩, .string ⟨#[60, 62]⟩, .string ⟨#[124, 124]⟩, .string ⟨#[40]⟩, .string ⟨#[41]⟩, .string ⟨#[44]⟩, .string ⟨#[46]⟩, .string ⟨#[59]⟩, .string ⟨#[61]⟩, .string ⟨#[60]⟩, .string ⟨#[62]⟩, .string ⟨#[43]⟩, .string ⟨#[45]⟩, .string ⟨#[42]⟩, .string ⟨#[47]⟩] 9) = w0 at *
  go_loopw [8] (fun x wr => ∃ k : Nat, x = .int .i64 k ∧ k ≤ 16 ∧ Hid (∀ j, j < k → (sgA j).isPrefixOf (rest s i) = false) ∧ Hid (Below w0.heap.size w0 wr)) (fun x _ => 16 - (intOf x).toNat)
  case atStart => exact ⟨0, rfl, by omega, fun j hj => by omega, Below.refl _ _⟩
  case round =>
    rename World => wr
    obtain ⟨k, rfl, hk, HN, HB⟩ := hrel
    obtain ⟨z0, z1, z2, z3, zf⟩ := HF.out wr HB.out
    have HCW : Hid (Below w.heap.size w wr) := HW.out.trans (HB.out.mono HW.out.size)
    by_cases hlt : k < 16
    · have tl : (k : Int) < 16 := by omega
      have hc := HC.out k hlt wr HB.out
      have hgl : (⟨(sgA k).toArray⟩ : ByteArray).data.toList = sgA k := rfl
      have hg2 : (⟨(sgA k).toArray⟩ : ByteArray).size = (sgA k).length := by rw [size_of_list]
      by_cases hle : i + (⟨(sgA k).toArray⟩ : ByteArray).size ≤ s.size
      · have hpe := pre_ext (g := ⟨(sgA k).toArray⟩) hle
        rw [hgl] at hpe
        cases hpre : (sgA k).isPrefixOf (rest s i) with
        | true =>
          rw [hpre] at hpe
          have hsg := HOO.out.trans (sg_find hlt HN.out hpre)
          subst hsg
          have HD : Hid (DTo (.tk 3 (sgA k) 0 (sgA k).length) i (.returned (.tuple #[.agg #[.int .i64 3, .string ⟨(sgA k).toArray⟩, .int .i64 0, .int .i64 i], .int .i64 ((⟨(sgA k).toArray⟩ : ByteArray).size : Nat), .string ⟨#[48, 48, 48, 48, 48]⟩]))) := by
            show _ = _
            rw [hg2]
          clear HN HC HF HOO hgl hg2
          generalize (⟨(sgA k).toArray⟩ : ByteArray) = g at *
          have tle : (i : Int) + (g.size : Int) ≤ (s.size : Int) := by omega
          have hgs : g.size ≤ 10000 := by omega
          go_wp2_with fail
          go_quiet (fail)
          rename Nat => nq
          have HBq : Hid (Below w0.heap.size w0 (wr.drewN nq)) := HB.out.trans ⟨rfl, rfl, rfl, Nat.le_refl _, fun _ _ => rfl⟩
          have HCq : Hid (Below w.heap.size w (wr.drewN nq)) := HCW.out.trans ⟨rfl, rfl, rfl, Nat.le_refl _, fun _ _ => rfl⟩
          have y0 : (wr.drewN nq).cell? ⟨w.heap.size, 0, none⟩ = some (.int .i64 0) := z0
          have y1 : (wr.drewN nq).cell? ⟨w.heap.size, 1, none⟩ = some (.string ⟨#[]⟩) := z1
          have y2 : (wr.drewN nq).cell? ⟨w.heap.size, 2, none⟩ = some (.int .i64 0) := z2
          have y3 : (wr.drewN nq).cell? ⟨w.heap.size, 3, none⟩ = some (.int .i64 0) := z3
          have yf : ∀ o, (wr.drewN nq).frozen? ⟨w.heap.size, o, none⟩ = false := zf
          have yc : (wr.drewN nq).cell? ⟨w.heap.size + 1, k, none⟩ = some (.string g) := hc
          clear z0 z1 z2 z3 zf hc HB HCW
          generalize wr.drewN nq = wq at *
          go_wp2_with fail
          refine bodyPost_ret (v := .tuple #[.agg #[.int .i64 3, .string g, .int .i64 0, .int .i64 i], .int .i64 (g.size : Nat), .string ⟨#[48, 48, 48, 48, 48]⟩]) ?_ rfl ⟨HD.out, ?_⟩
          · simp [results, Tryz.results31, go_sem, y0, y1, y2, y3]
          · exact (((HCq.out.setCell (p := ⟨w.heap.size, 0, none⟩) (Nat.le_refl _) _).setCell (p := ⟨w.heap.size, 1, none⟩) (Nat.le_refl _) _).setCell (p := ⟨w.heap.size, 2, none⟩) (Nat.le_refl _) _).setCell (p := ⟨w.heap.size, 3, none⟩) (Nat.le_refl _) _
        | false =>
          rw [hpre] at hpe
          have HN2 : Hid (∀ j, j < k + 1 → (sgA j).isPrefixOf (rest s i) = false) := fun j hj => by
            by_cases e : j = k
            · subst e; exact hpre
            · exact HN.out j (by omega)
          clear HN HC HF HOO hgl hg2 hpre
          generalize (⟨(sgA k).toArray⟩ : ByteArray) = g at *
          have tle : (i : Int) + (g.size : Int) ≤ (s.size : Int) := by omega
          have hgs : g.size ≤ 10000 := by omega
          go_wp2_with fail
          go_quiet (fail)
          rename Nat => nq
          have HBq : Hid (Below w0.heap.size w0 (wr.drewN nq)) := HB.out.trans ⟨rfl, rfl, rfl, Nat.le_refl _, fun _ _ => rfl⟩
          have HCq : Hid (Below w.heap.size w (wr.drewN nq)) := HCW.out.trans ⟨rfl, rfl, rfl, Nat.le_refl _, fun _ _ => rfl⟩
          have y0 : (wr.drewN nq).cell? ⟨w.heap.size, 0, none⟩ = some (.int .i64 0) := z0
          have y1 : (wr.drewN nq).cell? ⟨w.heap.size, 1, none⟩ = some (.string ⟨#[]⟩) := z1
          have y2 : (wr.drewN nq).cell? ⟨w.heap.size, 2, none⟩ = some (.int .i64 0) := z2
          have y3 : (wr.drewN nq).cell? ⟨w.heap.size, 3, none⟩ = some (.int .i64 0) := z3
          have yf : ∀ o, (wr.drewN nq).frozen? ⟨w.heap.size, o, none⟩ = false := zf
          have yc : (wr.drewN nq).cell? ⟨w.heap.size + 1, k, none⟩ = some (.string g) := hc
          clear z0 z1 z2 z3 zf hc HB HCW
          generalize wr.drewN nq = wq at *
          go_wp2_with fail
          exact ⟨⟨k + 1, by go_num, by omega, HN2, HBq⟩, by simp [intOf]; omega⟩
      · have hpre := pre_len (g := ⟨(sgA k).toArray⟩) hle (by omega)
        rw [hgl] at hpre
        have HN2 : Hid (∀ j, j < k + 1 → (sgA j).isPrefixOf (rest s i) = false) := fun j hj => by
          by_cases e : j = k
          · subst e; exact hpre
          · exact HN.out j (by omega)
        have hgs0 : (sgA k).length ≤ 2 := lt16 (P := fun k => (sgA k).length ≤ 2) (by decide) (by decide) (by decide) (by decide) (by decide) (by decide) (by decide) (by decide) (by decide) (by decide) (by decide) (by decide) (by decide) (by decide) (by decide) (by decide) k hlt
        have hgs : (⟨(sgA k).toArray⟩ : ByteArray).size ≤ 10000 := by omega
        clear HN HC HF HOO hgl hg2 hpre hgs0
        generalize (⟨(sgA k).toArray⟩ : ByteArray) = g at *
        have tle : ¬ (i : Int) + (g.size : Int) ≤ (s.size : Int) := by omega
        go_wp2_with fail
        have tdf : decide (IntKind.i64.wrap ((i : Int) + (g.size : Int)) ≤ (s.size : Int)) = false := by
          have twr : IntKind.i64.wrap ((i : Int) + (g.size : Int)) = (i : Int) + (g.size : Int) := by rw [IntKind.wrap_i64]; omega
          rw [twr]; exact decide_eq_false (by omega)
        have twr : IntKind.i64.wrap ((i : Int) + (g.size : Int)) = (i : Int) + (g.size : Int) := by rw [IntKind.wrap_i64]; omega
        have tdg : decide ((i : Int) + (g.size : Int) ≤ (s.size : Int)) = false := decide_eq_false (by omega)
        clear tle tdf
        go_quiet (fail)
        rename Nat => nq
        have HBq : Hid (Below w0.heap.size w0 (wr.drewN nq)) := HB.out.trans ⟨rfl, rfl, rfl, Nat.le_refl _, fun _ _ => rfl⟩
        have HCq : Hid (Below w.heap.size w (wr.drewN nq)) := HCW.out.trans ⟨rfl, rfl, rfl, Nat.le_refl _, fun _ _ => rfl⟩
        have y0 : (wr.drewN nq).cell? ⟨w.heap.size, 0, none⟩ = some (.int .i64 0) := z0
        have y1 : (wr.drewN nq).cell? ⟨w.heap.size, 1, none⟩ = some (.string ⟨#[]⟩) := z1
        have y2 : (wr.drewN nq).cell? ⟨w.heap.size, 2, none⟩ = some (.int .i64 0) := z2
        have y3 : (wr.drewN nq).cell? ⟨w.heap.size, 3, none⟩ = some (.int .i64 0) := z3
        have yf : ∀ o, (wr.drewN nq).frozen? ⟨w.heap.size, o, none⟩ = false := zf
        have yc : (wr.drewN nq).cell? ⟨w.heap.size + 1, k, none⟩ = some (.string g) := hc
        clear z0 z1 z2 z3 zf hc HB HCW
        generalize wr.drewN nq = wq at *
        go_wp2_with fail
        exact ⟨⟨k + 1, by go_num, by omega, HN2, HBq⟩, by simp [intOf]; omega⟩
    · have tl : ¬ (k : Int) < 16 := by omega
      have hsg := HOO.out.trans (sg_none (fun j hj => HN.out j (by omega)))
      subst hsg
      have HD : Hid (DTo (.no 1) i (.returned (.tuple #[.agg #[.int .i64 0, .string ⟨#[]⟩, .int .i64 0, .int .i64 0], .int .i64 0, .string ⟨#[52, 50, 54, 48, 49]⟩]))) := rfl
      clear HN HC HF HOO
      go_wp2_with fail
      refine bodyPost_ret (v := .tuple #[.agg #[.int .i64 0, .string ⟨#[]⟩, .int .i64 0, .int .i64 0], .int .i64 0, .string ⟨#[52, 50, 54, 48, 49]⟩]) ?_ rfl ⟨HD.out, ?_⟩
      · simp [results, Tryz.results31, go_sem, z0, z1, z2, z3]
      · exact (((HCW.out.setCell (p := ⟨w.heap.size, 0, none⟩) (Nat.le_refl _) _).setCell (p := ⟨w.heap.size, 1, none⟩) (Nat.le_refl _) _).setCell (p := ⟨w.heap.size, 2, none⟩) (Nat.le_refl _) _).setCell (p := ⟨w.heap.size, 3, none⟩) (Nat.le_refl _) _
end Go.Proofs.YtbkeaajnhalekaaGreatDoor
