/- The walk of keycode.Decode at every text: the values that it is the code of; or it is no code. -/
import Derived.Test.YtjajngngajnnpaaDoorK3G
namespace Go.Proofs.YtjajngngajnnpaaDoor
open Go.RowKit
set_option linter.unusedVariables false

/-- What Decode keeps while it reads: where it stands, what it has read, what it will say. -/
structure Mid (w : World) (s : ByteArray) (wr : World) (j : Nat) (l : List V4) (rv : Value) : Prop where
  cur : Cur wr (w.heap.size + 1 + 1 + 1) w.heap.size s j
  hr : wr.heap[w.heap.size + 1]? = some (.cells #[rv] 24 (0, 0))
  he : wr.heap[w.heap.size + 1 + 1]? = some (.cells #[.int .i64 0] 26 (0, 0))
  own : OwnR (w.heap.size + 1 + 1 + 1 + 1) wr rv l
  nfs : NFs l
  code : s.data.toList = codeL l ++ rest s j
  len : l.length ≤ j
  below : Below w.heap.size w wr
  size : w.heap.size + 1 + 1 + 1 + 1 ≤ wr.heap.size
abbrev startW (w : World) (s : ByteArray) : World := (((((w.alloc (.cells #[.string s] 9)).alloc (.cells #[.slice none 0 0] 24)).alloc (.cells #[.int .i64 0] 26)).alloc (.cells #[.int .i64 0] 3)))
theorem rest_zero (s : ByteArray) : rest s 0 = s.data.toList := by unfold rest; simp
theorem mid_start (w : World) (s : ByteArray) : Mid w s (startW w s) 0 [] (.slice none 0 0) := by
  refine ⟨⟨?_, ?_, Nat.zero_le _⟩, ?_, ?_, World.ownsRow_nil _ _ _ _, (fun v hv => by cases hv), ?_, Nat.zero_le _, ?_, ?_⟩
  · exact new_at _ _ (by simp)
  · rw [Below.heap_alloc _ _ _ (by simp; omega), Below.heap_alloc _ _ _ (by simp; omega), Below.heap_alloc _ _ _ (by simp)]; exact new_at _ _ (by simp)
  · rw [Below.heap_alloc _ _ _ (by simp), Below.heap_alloc _ _ _ (by simp)]; exact new_at _ _ (by simp)
  · rw [Below.heap_alloc _ _ _ (by simp)]; exact new_at _ _ (by simp)
  · rw [rest_zero]; rfl
  · exact (((((Below.refl _ _).alloc (Nat.le_refl _) _).alloc (by simp) _).alloc (by simp; omega) _).alloc (by simp; omega) _)
  · simp

theorem Cur.drew {w : World} {p q : Nat} {s : ByteArray} {i : Nat} (h : Cur w p q s i) : Cur w.drew p q s i := ⟨h.hp, h.hq, h.le⟩
theorem Mid.drew {w wr : World} {s : ByteArray} {j : Nat} {l : List V4} {rv : Value} (M : Mid w s wr j l rv) : Mid w s wr.drew j l rv :=
  ⟨M.cur.drew, M.hr, M.he, M.own.drew, M.nfs, M.code, M.len, M.below.drew, M.size⟩
theorem Mid.far {w wr : World} {s : ByteArray} {j : Nat} {l : List V4} {rv : Value} (M : Mid w s wr j l rv) {b : Nat} (hb : b < w.heap.size + 1 + 1 + 1 + 1) : rv.ownBlock ≠ some b := fun e => by
  have := M.own.ge b e; omega
/-- The end: all has been read. -/
theorem mid_end {w wr : World} {s : ByteArray} {l : List V4} {rv : Value} (M : Mid w s wr s.size l rv) :
    ((wr.setCell ⟨w.heap.size + 1, 0, none⟩ rv).setCell ⟨w.heap.size + 1 + 1, 0, none⟩ (.int .i64 0)).cell? ⟨w.heap.size + 1, 0, none⟩ = some rv ∧
    ((wr.setCell ⟨w.heap.size + 1, 0, none⟩ rv).setCell ⟨w.heap.size + 1 + 1, 0, none⟩ (.int .i64 0)).cell? ⟨w.heap.size + 1 + 1, 0, none⟩ = some (.int .i64 0) ∧
    NFs l ∧ codeL l = s.data.toList ∧ RowIs ((wr.setCell ⟨w.heap.size + 1, 0, none⟩ rv).setCell ⟨w.heap.size + 1 + 1, 0, none⟩ (.int .i64 0)) rv l ∧
    Below w.heap.size w ((wr.setCell ⟨w.heap.size + 1, 0, none⟩ rv).setCell ⟨w.heap.size + 1 + 1, 0, none⟩ (.int .i64 0)) := by
  have h1 : (wr.setCell ⟨w.heap.size + 1, 0, none⟩ rv).heap[w.heap.size + 1]? = some (.cells #[rv] 24 (0, 0)) := one_setCell M.hr
  have h2 : (wr.setCell ⟨w.heap.size + 1, 0, none⟩ rv).heap[w.heap.size + 1 + 1]? = some (.cells #[.int .i64 0] 26 (0, 0)) := (Below.heap_setCell _ _ _ _ (by simp)).trans M.he
  refine ⟨cell_of_one ((Below.heap_setCell _ _ _ _ (by simp)).trans h1), cell_of_one (one_setCell h2), M.nfs, ?_, ?_, ?_⟩
  · have := M.code
    rw [rest_nil, List.append_nil] at this
    exact this.symm
  · exact OwnR.row (base := w.heap.size + 1 + 1 + 1 + 1) (ownsRow_setCell_other (ownsRow_setCell_other M.own (M.far (by simp)) _) (M.far (by simp)) _)
  · exact (M.below.setCell (by simp) _).setCell (by simp; omega) _
/-- The end: no code. -/
theorem mid_fail {w wr w2 : World} {s : ByteArray} {j : Nat} {l : List V4} {rv : Value} (M : Mid w s wr j l rv) (hg : wr.grownBy w2 (some (w.heap.size + 1 + 1 + 1))) :
    w2.heap[w.heap.size + 1]? = some (.cells #[rv] 24 (0, 0)) ∧ w2.heap[w.heap.size + 1 + 1]? = some (.cells #[.int .i64 0] 26 (0, 0)) ∧ Below w.heap.size w w2 := by
  have hs := M.size
  refine ⟨(hg.block _ (by omega) (by simp)).trans M.hr, (hg.block _ (by omega) (by simp)).trans M.he, ?_⟩
  exact M.below.trans ⟨hg.os, hg.tape, hg.output, hg.size, fun k hk => hg.block k (by omega) (by simp; omega)⟩
theorem fail_cells {B : Nat} {w2 : World} {rv : Value} (h1 : w2.heap[B + 1]? = some (.cells #[rv] 24 (0, 0))) (h2 : w2.heap[B + 1 + 1]? = some (.cells #[.int .i64 0] 26 (0, 0))) (o : Obj) :
    (((w2.alloc o).setCell ⟨B + 1, 0, none⟩ (.slice none 0 0)).setCell ⟨B + 1 + 1, 0, none⟩ (.int .i64 31)).cell? ⟨B + 1, 0, none⟩ = some (.slice none 0 0) ∧
    (((w2.alloc o).setCell ⟨B + 1, 0, none⟩ (.slice none 0 0)).setCell ⟨B + 1 + 1, 0, none⟩ (.int .i64 31)).cell? ⟨B + 1 + 1, 0, none⟩ = some (.int .i64 31) := by
  have k1 : (w2.alloc o).heap[B + 1]? = some (.cells #[rv] 24 (0, 0)) := (Below.heap_alloc _ _ _ (lt_of_block h1)).trans h1
  have k2 : (w2.alloc o).heap[B + 1 + 1]? = some (.cells #[.int .i64 0] 26 (0, 0)) := (Below.heap_alloc _ _ _ (lt_of_block h2)).trans h2
  refine ⟨cell_of_one (t := 24) ((Below.heap_setCell _ _ _ _ (by simp)).trans (one_setCell k1)), cell_of_one (t := 26) (one_setCell ((Below.heap_setCell _ _ _ _ (by simp)).trans k2))⟩

abbrev Told (w : World) (s : ByteArray) (e : Ending) (w' : World) : Prop :=
      ((∃ (l : List V4) (rv : Value), e = .returned (.tuple #[rv, .int .i64 0]) ∧ NFs l ∧ codeL l = s.data.toList ∧ RowIs w' rv l) ∨
       (e = .returned (.tuple #[.slice none 0 0, .int .i64 31]) ∧ ∀ l, NFs l → codeL l ≠ s.data.toList)) ∧ Below w.heap.size w w'
theorem door_panic {w wr w2 : World} {s : ByteArray} {j : Nat} {l : List V4} {rv : Value} (M : Mid w s wr j l rv) (hg : wr.grownBy w2 (some (w.heap.size + 1 + 1 + 1))) (HF : ∀ l', NFs l' → codeL l' ≠ s.data.toList)
    (a : Act) (hd : a.defers = [{ target := .fn (.func 18) #[.pointer (some ⟨w.heap.size + 1, 0, none⟩), .pointer (some ⟨w.heap.size + 1 + 1, 0, none⟩)], args := #[] }])
    (h2 : a.tmps[2]?.getD undef = .pointer (some ⟨w.heap.size + 1, 0, none⟩)) (h3 : a.tmps[3]?.getD undef = .pointer (some ⟨w.heap.size + 1 + 1, 0, none⟩)) :
    bodyPostD Tryd.prog Tryd.f9 (Told w s) (Exit.panic noCodeP) a w2 := by
  obtain ⟨k1, k2, k3⟩ := mid_fail M hg
  obtain ⟨tm, df⟩ := a
  simp only at hd h2 h3
  subst hd
  refine leaves_cons (f := 18) (args := #[.pointer (some ⟨w.heap.size + 1, 0, none⟩), .pointer (some ⟨w.heap.size + 1 + 1, 0, none⟩)]) (by simp) (by simp [go_sem]) ?_
  refine (catch_panicking _ _ _ _ [] _ k1 k2).mono ?_
  rintro e u' w'' ⟨rfl, rfl, rfl⟩
  obtain ⟨q1, q2⟩ := fail_cells k1 k2 (.cells #[] 44)
  refine ⟨.tuple #[.slice none 0 0, .int .i64 31], ?_, ?_⟩
  · simp [results, Tryd.results9, go_sem, q1, q2, h2, h3]
  · refine ⟨Or.inr ⟨rfl, HF⟩, ?_⟩
    exact ((k3.alloc k3.size _).setCell (by simp) _).setCell (by simp; omega) _

/-- A value has been read, and is not yet put behind the others. -/
structure Half (w : World) (s : ByteArray) (wr : World) (j : Nat) (l : List V4) (x : V4) (rv : Value) : Prop where
  cur : Cur wr (w.heap.size + 1 + 1 + 1) w.heap.size s j
  hr : wr.heap[w.heap.size + 1]? = some (.cells #[rv] 24 (0, 0))
  he : wr.heap[w.heap.size + 1 + 1]? = some (.cells #[.int .i64 0] 26 (0, 0))
  own : OwnR (w.heap.size + 1 + 1 + 1 + 1) wr rv l
  nfs : NFs (l ++ [x])
  code : s.data.toList = codeL (l ++ [x]) ++ rest s j
  len : l.length + 1 ≤ j
  below : Below w.heap.size w wr
  size : w.heap.size + 1 + 1 + 1 + 1 ≤ wr.heap.size
theorem Mid.read {w wr w2 : World} {s : ByteArray} {j : Nat} {l : List V4} {x : V4} {y : List UInt8} {rv : Value} (M : Mid w s wr j l rv) (hg : wr.grownBy w2 (some (w.heap.size + 1 + 1 + 1))) (hc : Cur w2 (w.heap.size + 1 + 1 + 1) w.heap.size s (j + (code1 x).length)) (hx : NF x) (hxy : rest s j = code1 x ++ y) :
    Half w s w2 (j + (code1 x).length) l x rv := by
  obtain ⟨k1, k2, k3⟩ := mid_fail M hg
  have hp : 0 < (code1 x).length := by
    obtain ⟨c, t, e, _⟩ := code_pos hx.1
    rw [e]; simp
  refine ⟨hc, k1, k2, ?_, nfs_snoc M.nfs hx, ?_, by have := M.len; omega, k3, Nat.le_trans M.size hg.size⟩
  · refine World.ownsRow.kept M.own hg ?_
    cases e : rv.ownBlock with
    | none => exact Or.inl rfl
    | some k => exact Or.inr (fun e' => by have := M.own.ge k e; simp at e'; omega)
  · have h1 : rest s (j + (code1 x).length) = y := by
      have : rest s (j + (code1 x).length) = (rest s j).drop (code1 x).length := by unfold rest; rw [List.drop_drop]
      rw [this, hxy, List.drop_left]
    rw [h1, codeL_app, M.code, hxy, List.append_assoc]
    simp [codeL]
theorem Half.push {w w2 w3 : World} {s : ByteArray} {j : Nat} {l : List V4} {x : V4} {rv v' : Value} {o : Obj} (M : Half w s w2 j l x rv) (hg : GrowB (w2.alloc o) rv w3 v') (hown : OwnR (w.heap.size + 1 + 1 + 1 + 1) w3 v' (l ++ [x])) :
    w3.heap[w.heap.size + 1]? = some (.cells #[rv] 24 (0, 0)) ∧ Mid w s (w3.setCell ⟨w.heap.size + 1, 0, none⟩ v') j (l ++ [x]) v' := by
  have hs := M.size
  have far : ∀ b, b < w.heap.size + 1 + 1 + 1 + 1 → w3.heap[b]? = w2.heap[b]? := fun b hb =>
    (hg.grown.block b (by simp; omega) (fun e => by have := M.own.ge b e.symm; omega)).trans (Below.heap_alloc _ _ _ (by omega))
  have h1 : w3.heap[w.heap.size + 1]? = some (.cells #[rv] 24 (0, 0)) := (far _ (by omega)).trans M.hr
  have h2 : w3.heap[w.heap.size + 1 + 1]? = some (.cells #[.int .i64 0] 26 (0, 0)) := (far _ (by omega)).trans M.he
  have hc : Cur w3 (w.heap.size + 1 + 1 + 1) w.heap.size s j := ⟨(far _ (by omega)).trans M.cur.hp, (far _ (by omega)).trans M.cur.hq, M.cur.le⟩
  have hsz := hg.grown.size
  simp at hsz
  refine ⟨h1, hc.other (b := w.heap.size + 1) (by omega) (by omega) _, one_setCell h1, (Below.heap_setCell _ _ _ _ (by simp)).trans h2, ?_, M.nfs, M.code, by rw [List.length_append]; exact M.len, ?_, by simp [World.setCell]; omega⟩
  · exact ownsRow_setCell_other hown (fun e => by have := hown.ge _ e; simp at this; omega) _
  · refine Below.setCell ?_ (by simp) _
    exact M.below.trans ⟨hg.grown.os, hg.grown.tape, hg.grown.output, by omega, fun k hk => far k (by omega)⟩
theorem row_one (w : World) (x : V4) : ∀ k (h : k < [x].length), (w.alloc (.cells #[.int .i64 x.1, .int .i64 x.2.1, .string ⟨x.2.2.1.toArray⟩, .bool x.2.2.2] 39)).rangeAt w.heap.size (k * 4) (cellsV [x][k]) := by
  intro k hk j u hu
  simp only [List.length_singleton] at hk
  obtain rfl : k = 0 := by omega
  rw [cell_of_row _ _ _ _ _ _ (heap_alloc_new w _)]
  simpa [cellsV] using hu

theorem Half.later {w w2 : World} {s : ByteArray} {j : Nat} {l : List V4} {x : V4} {rv : Value} (M : Half w s w2 j l x rv) (x : V4) : (w2.alloc (.cells #[.int .i64 x.1, .int .i64 x.2.1, .string ⟨x.2.2.1.toArray⟩, .bool x.2.2.2] 39)).cell? ⟨w.heap.size + 1, 0, none⟩ = some rv :=
  cell_of_one ((Below.heap_alloc _ _ _ (lt_of_block M.hr)).trans M.hr)
theorem slice_form {w : World} {v : Value} {l : List V4} (h : RowIs w v l) : ∃ ao n cap, v = .slice ao n cap := by
  obtain ⟨ao, cap, h1, _⟩ := h
  exact ⟨ao, _, cap, h1⟩
theorem code_one {x : V4} (h : NF x) : 0 < (code1 x).length := by
  obtain ⟨c, t, e, _⟩ := code_pos h.1
  rw [e]; simp

set_option maxHeartbeats 2000000 in
theorem decode_any (s : ByteArray) (w : World) (hs : s.size ≤ 1099511627776) :
    Calls Tryd.prog 9 #[.string s] w (Told w s) := by
  have hmf : ∀ (fn : Fn) (first cap : Array Value) (w : World), (Instr.makeFunc fn first cap).run Tryd.prog w = .ok (.func fn first cap) w := fun _ _ _ _ => rfl
  have M0 := mid_start w s
  go_enter_defers Tryd.func9, Tryd.ntmps9
  go_wp2
  go_loopw [] (fun wr => ∃ (j : Nat) (l : List V4) (rv : Value), Mid w s wr j l rv) (fun wr => s.size - atOf wr (w.heap.size + 1 + 1 + 1))
  case atStart => exact ⟨0, [], _, M0⟩
  case round =>
    obtain ⟨j, l, rv, M⟩ := hrel
    obtain ⟨ao, cap, rfl, hcap⟩ := M.own.row.cap
    clear M0
    have cp := cell_of_one M.cur.hp
    have cq := cell_of_one M.cur.hq
    have cr := cell_of_one M.hr
    have fr := free_of_one M.hr
    have ce := cell_of_one M.he
    have fe := free_of_one M.he
    have hjs := M.cur.le
    by_cases hj : j < s.size
    · by_cases hv : ∃ x y, NF x ∧ rest s j = code1 x ++ y
      · obtain ⟨x, y, hx, hxy⟩ := hv
        have HX : Hid (NF x) := hx
        have HXY : Hid (rest s j = code1 x ++ y) := hxy
        have hlj := M.len
        clear hx hxy
        go_wp2_with fail
        refine wp_region_any (by kernel_rfl) ?_
        change wpAny _ _ _ _ _ _ _ (World.drew _)
        refine wpAny_ready (rs := [0, 1]) (by kernel_rfl) (by simp) ?_
        refine AllReady.cons rfl (fun K hK => ?_) (AllReady.cons rfl (fun K hK => ?_) AllReady.nil)
        · go_simp
          refine hK _ _ ?_
          clear hK K
          refine wpAny_ready (rs := [1]) (by kernel_rfl) (by simp) ?_
          refine AllReady.cons rfl (fun K hK => ?_) AllReady.nil
          · go_simp
            refine hK _ _ ?_
            clear hK K
            refine wpAny_ready (rs := [2]) (by kernel_rfl) (by simp) ?_
            refine AllReady.cons rfl (fun K hK => ?_) AllReady.nil
            · go_simp
              go_wp2_with (go_at_call 20; refine (takeValue_ok _ _ s j _ x y M.cur.drew hs HX.out HXY.out).mono ?_; rintro e w2 ⟨rfl, hg, hc2⟩; have M2 := M.drew.read hg hc2 HX.out HXY.out; have cr2 := cell_of_one M2.hr; have cra := M2.later x; have hs2 := M2.size)
              refine wpAny_ready (rs := [3]) (by kernel_rfl) (by simp) ?_
              refine AllReady.cons rfl (fun K hK => ?_) AllReady.nil
              · go_simp
                refine hK _ _ ?_
                clear hK K
                refine wpAny_ready (rs := [4]) (by kernel_rfl) (by simp) ?_
                refine AllReady.cons rfl (fun K hK => ?_) AllReady.nil
                · refine step_appR _ (by rfl) _ _ (by rfl) (w.heap.size + 1 + 1 + 1 + 1) (.slice ao l.length cap) l (by rfl) (M2.own.alloc _) w2.heap.size 1 1 [x] (by rfl) (row_one w2 x) rfl (by decide) (by omega) (by simp; omega) ?_
                  intro v' w3 hown3 hgrow
                  obtain ⟨ao3, n3, cap3, hv3⟩ := slice_form hown3.row
                  subst hv3
                  have M3 := M2.push hgrow hown3
                  have cr3 := cell_of_one M3.1
                  have fr3 := free_of_one M3.1
                  refine hK _ _ ?_
                  clear hK K
                  refine wpAny_ready (rs := [5]) (by kernel_rfl) (by simp) ?_
                  refine AllReady.cons rfl (fun K hK => ?_) AllReady.nil
                  · go_simp
                    refine hK _ _ ?_
                    clear hK K
                    refine wpAny_done (by kernel_rfl) ?_ _
                    refine ⟨⟨_, _, _, _, _, _, _, _, _, ⟨_, _, _, M3.2⟩, rfl⟩, ?_⟩
                    have := code_one HX.out
                    have := hc2.le
                    rw [M3.2.cur.at, M.cur.at]; omega
        · go_simp
          refine hK _ _ ?_
          clear hK K
          refine wpAny_ready (rs := [0, 2]) (by kernel_rfl) (by simp) ?_
          refine AllReady.cons rfl (fun K hK => ?_) (AllReady.cons rfl (fun K hK => ?_) AllReady.nil)
          · go_simp
            refine hK _ _ ?_
            clear hK K
            refine wpAny_ready (rs := [2]) (by kernel_rfl) (by simp) ?_
            refine AllReady.cons rfl (fun K hK => ?_) AllReady.nil
            · go_simp
              go_wp2_with (go_at_call 20; refine (takeValue_ok _ _ s j _ x y M.cur.drew hs HX.out HXY.out).mono ?_; rintro e w2 ⟨rfl, hg, hc2⟩; have M2 := M.drew.read hg hc2 HX.out HXY.out; have cr2 := cell_of_one M2.hr; have cra := M2.later x; have hs2 := M2.size)
              refine wpAny_ready (rs := [3]) (by kernel_rfl) (by simp) ?_
              refine AllReady.cons rfl (fun K hK => ?_) AllReady.nil
              · go_simp
                refine hK _ _ ?_
                clear hK K
                refine wpAny_ready (rs := [4]) (by kernel_rfl) (by simp) ?_
                refine AllReady.cons rfl (fun K hK => ?_) AllReady.nil
                · refine step_appR _ (by rfl) _ _ (by rfl) (w.heap.size + 1 + 1 + 1 + 1) (.slice ao l.length cap) l (by rfl) (M2.own.alloc _) w2.heap.size 1 1 [x] (by rfl) (row_one w2 x) rfl (by decide) (by omega) (by simp; omega) ?_
                  intro v' w3 hown3 hgrow
                  obtain ⟨ao3, n3, cap3, hv3⟩ := slice_form hown3.row
                  subst hv3
                  have M3 := M2.push hgrow hown3
                  have cr3 := cell_of_one M3.1
                  have fr3 := free_of_one M3.1
                  refine hK _ _ ?_
                  clear hK K
                  refine wpAny_ready (rs := [5]) (by kernel_rfl) (by simp) ?_
                  refine AllReady.cons rfl (fun K hK => ?_) AllReady.nil
                  · go_simp
                    refine hK _ _ ?_
                    clear hK K
                    refine wpAny_done (by kernel_rfl) ?_ _
                    refine ⟨⟨_, _, _, _, _, _, _, _, _, ⟨_, _, _, M3.2⟩, rfl⟩, ?_⟩
                    have := code_one HX.out
                    have := hc2.le
                    rw [M3.2.cur.at, M.cur.at]; omega
          · go_simp
            go_wp2_with (go_at_call 20; refine (takeValue_ok _ _ s j _ x y M.cur.drew hs HX.out HXY.out).mono ?_; rintro e w2 ⟨rfl, hg, hc2⟩; have M2 := M.drew.read hg hc2 HX.out HXY.out; have cr2 := cell_of_one M2.hr; have cra := M2.later x; have hs2 := M2.size)
            refine wpAny_ready (rs := [0, 3]) (by kernel_rfl) (by simp) ?_
            refine AllReady.cons rfl (fun K hK => ?_) (AllReady.cons rfl (fun K hK => ?_) AllReady.nil)
            · go_simp
              refine hK _ _ ?_
              clear hK K
              refine wpAny_ready (rs := [3]) (by kernel_rfl) (by simp) ?_
              refine AllReady.cons rfl (fun K hK => ?_) AllReady.nil
              · go_simp
                refine hK _ _ ?_
                clear hK K
                refine wpAny_ready (rs := [4]) (by kernel_rfl) (by simp) ?_
                refine AllReady.cons rfl (fun K hK => ?_) AllReady.nil
                · refine step_appR _ (by rfl) _ _ (by rfl) (w.heap.size + 1 + 1 + 1 + 1) (.slice ao l.length cap) l (by rfl) (M2.own.alloc _) w2.heap.size 1 1 [x] (by rfl) (row_one w2 x) rfl (by decide) (by omega) (by simp; omega) ?_
                  intro v' w3 hown3 hgrow
                  obtain ⟨ao3, n3, cap3, hv3⟩ := slice_form hown3.row
                  subst hv3
                  have M3 := M2.push hgrow hown3
                  have cr3 := cell_of_one M3.1
                  have fr3 := free_of_one M3.1
                  refine hK _ _ ?_
                  clear hK K
                  refine wpAny_ready (rs := [5]) (by kernel_rfl) (by simp) ?_
                  refine AllReady.cons rfl (fun K hK => ?_) AllReady.nil
                  · go_simp
                    refine hK _ _ ?_
                    clear hK K
                    refine wpAny_done (by kernel_rfl) ?_ _
                    refine ⟨⟨_, _, _, _, _, _, _, _, _, ⟨_, _, _, M3.2⟩, rfl⟩, ?_⟩
                    have := code_one HX.out
                    have := hc2.le
                    rw [M3.2.cur.at, M.cur.at]; omega
            · go_simp
              refine hK _ _ ?_
              clear hK K
              refine wpAny_ready (rs := [0]) (by kernel_rfl) (by simp) ?_
              refine AllReady.cons rfl (fun K hK => ?_) AllReady.nil
              · go_simp
                refine hK _ _ ?_
                clear hK K
                refine wpAny_ready (rs := [4]) (by kernel_rfl) (by simp) ?_
                refine AllReady.cons rfl (fun K hK => ?_) AllReady.nil
                · refine step_appR _ (by rfl) _ _ (by rfl) (w.heap.size + 1 + 1 + 1 + 1) (.slice ao l.length cap) l (by rfl) (M2.own.alloc _) w2.heap.size 1 1 [x] (by rfl) (row_one w2 x) rfl (by decide) (by omega) (by simp; omega) ?_
                  intro v' w3 hown3 hgrow
                  obtain ⟨ao3, n3, cap3, hv3⟩ := slice_form hown3.row
                  subst hv3
                  have M3 := M2.push hgrow hown3
                  have cr3 := cell_of_one M3.1
                  have fr3 := free_of_one M3.1
                  refine hK _ _ ?_
                  clear hK K
                  refine wpAny_ready (rs := [5]) (by kernel_rfl) (by simp) ?_
                  refine AllReady.cons rfl (fun K hK => ?_) AllReady.nil
                  · go_simp
                    refine hK _ _ ?_
                    clear hK K
                    refine wpAny_done (by kernel_rfl) ?_ _
                    refine ⟨⟨_, _, _, _, _, _, _, _, _, ⟨_, _, _, M3.2⟩, rfl⟩, ?_⟩
                    have := code_one HX.out
                    have := hc2.le
                    rw [M3.2.cur.at, M.cur.at]; omega
      · have hn : NoVal (rest s j) := fun x y hx e => hv ⟨x, y, hx, e⟩
        have HN : Hid (NoVal (rest s j)) := hn
        have HF : Hid (∀ l', NFs l' → codeL l' ≠ s.data.toList) := by
          show ∀ l', NFs l' → codeL l' ≠ s.data.toList
          rw [M.code]
          refine no_code M.nfs (fun e => ?_) hn
          have := rest_len s j
          rw [e] at this; simp at this; omega
        clear hv hn
        go_wp2_with fail
        refine wp_region_any (by kernel_rfl) ?_
        change wpAny _ _ _ _ _ _ _ (World.drew _)
        refine wpAny_ready (rs := [0, 1]) (by kernel_rfl) (by simp) ?_
        refine AllReady.cons rfl (fun K hK => ?_) (AllReady.cons rfl (fun K hK => ?_) AllReady.nil)
        · go_simp
          refine hK _ _ ?_
          clear hK K
          refine wpAny_ready (rs := [1]) (by kernel_rfl) (by simp) ?_
          refine AllReady.cons rfl (fun K hK => ?_) AllReady.nil
          · go_simp
            refine hK _ _ ?_
            clear hK K
            refine wpAny_ready (rs := [2]) (by kernel_rfl) (by simp) ?_
            refine AllReady.cons rfl (fun K hK => ?_) AllReady.nil
            · go_simp
              go_wp2_with (go_at_call 20; refine (takeValue_bad _ _ s j _ M.cur.drew hs HN.out).mono ?_; rintro e w2 ⟨rfl, hg⟩; exact door_panic M.drew hg HF.out _ rfl rfl rfl)
        · go_simp
          refine hK _ _ ?_
          clear hK K
          refine wpAny_ready (rs := [0, 2]) (by kernel_rfl) (by simp) ?_
          refine AllReady.cons rfl (fun K hK => ?_) (AllReady.cons rfl (fun K hK => ?_) AllReady.nil)
          · go_simp
            refine hK _ _ ?_
            clear hK K
            refine wpAny_ready (rs := [2]) (by kernel_rfl) (by simp) ?_
            refine AllReady.cons rfl (fun K hK => ?_) AllReady.nil
            · go_simp
              go_wp2_with (go_at_call 20; refine (takeValue_bad _ _ s j _ M.cur.drew hs HN.out).mono ?_; rintro e w2 ⟨rfl, hg⟩; exact door_panic M.drew hg HF.out _ rfl rfl rfl)
          · go_simp
            go_wp2_with (go_at_call 20; refine (takeValue_bad _ _ s j _ M.cur.drew hs HN.out).mono ?_; rintro e w2 ⟨rfl, hg⟩; exact door_panic M.drew hg HF.out _ rfl rfl rfl)
    · obtain rfl : j = s.size := by omega
      obtain ⟨r1, r2, r3, r4, r5, r6⟩ := mid_end M
      go_wp2
      refine leaves_cons (f := 18) (args := #[.pointer (some ⟨w.heap.size + 1, 0, none⟩), .pointer (some ⟨w.heap.size + 1 + 1, 0, none⟩)]) (by simp) (by simp [go_sem]) ?_
      refine (catch_idle _ _ _).mono ?_
      rintro e u' w'' ⟨rfl, rfl, rfl⟩
      exact ⟨_, by simp [results, Tryd.results9, go_sem, r1, r2], ⟨Or.inl ⟨l, _, rfl, r3, r4, r5⟩, r6⟩⟩
end Go.Proofs.YtjajngngajnnpaaDoor
