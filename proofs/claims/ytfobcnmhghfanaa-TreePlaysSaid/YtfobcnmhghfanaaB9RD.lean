/- The document's sorted list: Purge, Insert. -/
import Derived.Test.YtfobcnmhghfanaaB9RC
namespace Go.Proofs.Ytfobcnmhghfanaa
open Go.RowKit Go.Shelf
set_option linter.unusedVariables false
set_option linter.unusedSimpArgs false

theorem grow_none {w w' : World} {v' : Value} (h : GrowB w (.slice none 0 0) w' v') : Below w.heap.size w w' := (Fr.of_grown (F := fun _ => False) h.grown (fun k hk => by cases hk)).below (Nat.le_refl _) (fun k hk => hk.elim)
theorem grow_more {w w1 w2 : World} {v v' : Value} {l : List E} (hb : Below w.heap.size w w1) (hrow : RowR w.heap.size w1 v l) (h : GrowB w1 v w2 v') : Below w.heap.size w w2 := hb.trans ((Fr.of_grown (F := fun i => v.ownBlock = some i) h.grown (fun k hk => hk)).below hb.size (fun k hk => (hrow.lo k hk).1))
theorem build_r (w : World) (a : ByteArray) (n : Int) : (Instr.build 56 #[(0, .string a), (1, .int .i64 n), (2, .bool false)]).run Try.prog w = .ok (.agg #[.string a, .int .i64 n, .bool false]) w := by kernel_rfl
theorem build_rs (w : World) (a : ByteArray) (n : Int) : (Instr.buildSlice 26 1 #[(0, .agg #[.string a, .int .i64 n, .bool false])]).run Try.prog w = .ok (.slice (some ⟨w.heap.size, 0, none⟩) 1 1) (w.alloc (.cells #[.string a, .int .i64 n, .bool false] 56)) := by kernel_rfl
theorem one_cells (w : World) (x : E) : ∀ j u, (([x] : List E).flatMap cE)[j]? = some u → (w.alloc (.cells #[.string x.key, .int .i64 x.num, .bool x.ghost] 56)).cell? (Addr.add ⟨w.heap.size, 0, none⟩ j) = some u := fun j u hu => by
  rw [Addr.add_mid, Nat.zero_add, cell_of_row _ _ _ _ _ _ (heap_alloc_new w _)]
  simpa [cE] using hu
set_option maxRecDepth 20000 in
set_option maxHeartbeats 4000000 in
theorem rpurge_any {base : Nat} {w : World} {b : Nat} {lv : Value} {L : List E} (h : RT base w b lv L) (hl : Line L) (hlen : L.length ≤ 90000) (hbase : base ≤ w.heap.size) (key : ByteArray) :
    Calls Try.prog 23 #[pt b, .string key] w fun e w' => RO base w b lv (purgeO L key) e w' := by
  have ha := rat_any h (by omega) key
  have HR : Hid (RT base w b lv L) := h
  have HL : Hid (Line L) := hl
  have hblt := h.lt
  clear h hl
  go_enter Try.func23, Try.ntmps23
  go_wp2_with fail
  refine ha.mono ?_
  clear ha
  rintro e w1 ⟨k, hp, rfl, hb1⟩
  have hr := HR.out.below hb1
  have hle := hp.le
  cases hi : isAt L key k with
  | false =>
    have hg := pos_none HL.out hp (isAt_none hi)
    have HO : Hid (RO base w b lv (purgeO L key) (.returned (.int .i64 92)) w1) := RO.same HR.out hb1 (by unfold purgeO; rw [hg])
    clear hr hp hi hb1 HR HL hg
    simp only
    go_wp2_with fail
    go_ret
    exact HO.out
  | true =>
    obtain ⟨hk, he⟩ := isAt_some hi
    have hg := pos_some HL.out hk he
    obtain ⟨g, cap, rfl, hcap, _⟩ := hr.row.at_ (by omega)
    have c0 := hr.cell
    obtain ⟨_, _, e2⟩ := hr.ent k hk
    cases hgh : L[k].ghost with
    | false =>
      rw [hgh] at e2
      have HO : Hid (RO base w b (.slice (some ⟨g, 0, none⟩) L.length cap) (purgeO L key) (.returned (.int .i64 92)) w1) := RO.same HR.out hb1 (by unfold purgeO; rw [hg]; simp [hgh])
      clear hr hp hi hb1 HR HL hg he hgh
      simp only
      go_wp2_with fail
      go_ret
      exact HO.out
    | true =>
      rw [hgh] at e2
      have ho : purgeO L key = (0, L.take k ++ L.drop (k + 1)) := by
        unfold purgeO; rw [hg]; simp only [hgh, if_true]
        rw [← he, pos_del HL.out hk, List.eraseIdx_eq_take_drop_succ]
      have HEND : Hid (∀ w3 lv3, Below w1.heap.size w1 w3 → RowR w1.heap.size w3 lv3 (L.take k ++ L.drop (k + 1)) → RO base w b (.slice (some ⟨g, 0, none⟩) L.length cap) (purgeO L key) (.returned (.int .i64 0)) (w3.setCell ⟨b, 0, none⟩ lv3)) := fun w3 lv3 h1 h2 => RO.fresh hr hb1 hblt h1 h2 (Nat.le_trans hbase hb1.size) ho
      have HT : Hid _ := hr.takeC k
      have HR1 : Hid (RT base w1 b (.slice (some ⟨g, 0, none⟩) L.length cap) L) := hr
      have HE : Hid (RowR w1.heap.size w1 (.slice none 0 0) []) := Row.nil_ _ _ _ _ _
      have hLT : (L.take k).length = k := by rw [List.length_take]; omega
      have HLT : Hid ((L.take k).length = k) := hLT
      have hLD : (L.drop (k + 1)).length = L.length - (k + 1) := by rw [List.length_drop]
      have HLD : Hid ((L.drop (k + 1)).length = L.length - (k + 1)) := hLD
      clear hr hp hi hb1 HR HL hg he hgh ho hLT hLD
      simp only
      go_wp2_with (first | (at_builtin; refine wp_appR _ rfl _ _ rfl w1.heap.size _ [] rfl HE.out _ _ _ (L.take k) rfl (Or.inr ⟨_, rfl, HT.out⟩) HLT.out (by simp; omega) (Nat.le_refl _) ?_))
      intro so sn sc w2 hsn hrow2 hgr2
      clear hsn
      have hb2 := grow_none hgr2
      have hr2 := HR1.out.below hb2
      have c0 := hr2.cell
      have HB2 : Hid (Below w1.heap.size w1 w2) := hb2
      have HW2 : Hid (RowR w1.heap.size w2 (.slice so sn sc) (L.take k)) := hrow2
      have HD : Hid _ := hr2.dropC (k + 1) (by omega)
      have fz := frozen_row hr2.hb 0
      clear hb2 hrow2 hgr2 hr2 HT HE e2
      by_cases hcd : cap = k + 1
      · have hND : L.drop (k + 1) = [] := List.drop_eq_nil_of_le (by omega)
        have HND : Hid (L.drop (k + 1) = []) := hND
        clear hND
        subst cap
        go_wp2_with (first | (at_builtin; refine wp_appR _ rfl _ _ rfl w1.heap.size _ (L.take k) rfl HW2.out _ _ _ (L.drop (k + 1)) rfl (Or.inl HND.out) (by first | exact HLD.out | (rw [HND.out]; rfl)) (by rw [HLT.out]; omega) HB2.out.size ?_))
        intro so3 sn3 sc3 w3 hsn3 hrow3 hgr3
        clear hsn3
        have hb3 := grow_more HB2.out HW2.out hgr3
        have hr3 := HR1.out.below hb3
        have c0 := hr3.cell
        have fz := frozen_row hr3.hb 0
        have HO := HEND.out w3 _ hb3 hrow3
        have HO2 : Hid _ := HO
        clear hb3 hrow3 hgr3 hr3 HO HD
        go_wp2_with fail
        go_ret
        exact HO2.out
      · have hcd2 : k + 1 < cap := by omega
        go_wp2_with (first | (at_builtin; refine wp_appR _ rfl _ _ rfl w1.heap.size _ (L.take k) rfl HW2.out _ _ _ (L.drop (k + 1)) rfl (Or.inr ⟨_, rfl, HD.out⟩) HLD.out (by rw [HLT.out]; omega) HB2.out.size ?_))
        intro so3 sn3 sc3 w3 hsn3 hrow3 hgr3
        clear hsn3
        have hb3 := grow_more HB2.out HW2.out hgr3
        have hr3 := HR1.out.below hb3
        have c0 := hr3.cell
        have fz := frozen_row hr3.hb 0
        have HO := HEND.out w3 _ hb3 hrow3
        have HO2 : Hid _ := HO
        clear hb3 hrow3 hgr3 hr3 HO HD
        go_wp2_with fail
        go_ret
        exact HO2.out
set_option maxRecDepth 20000 in
set_option maxHeartbeats 8000000 in
theorem rinsert_some {base : Nat} {w : World} {b g cap : Nat} {L : List E} (h : RT base w b (.slice (some ⟨g, 0, none⟩) L.length cap) L) (hcap : L.length ≤ cap) (hl : Line L) (hlen : L.length ≤ 90000) (hbase : base ≤ w.heap.size) (key : ByteArray) (n : Int) (hsz : ¬ 2000 < key.size) :
    Calls Try.prog 21 #[pt b, .string key, .int .i64 n] w fun e w' => RO base w b (.slice (some ⟨g, 0, none⟩) L.length cap) (insO L key n) e w' := by
  have hz : ¬ ((2000 : Int) < (key.size : Int)) := by omega
  have ha := rat_any h (by omega) key
  have HR : Hid (RT base w b (.slice (some ⟨g, 0, none⟩) L.length cap) L) := h
  have HL : Hid (Line L) := hl
  have hblt := h.lt
  clear h hl
  go_enter Try.func21, Try.ntmps21
  go_wp2_with fail
  refine ha.mono ?_
  clear ha
  rintro e w1 ⟨k, hp, rfl, hb1⟩
  have hr := HR.out.below hb1
  have hle := hp.le
  have c0 := hr.cell
  cases hi : isAt L key k with
  | false =>
    have hg := pos_none HL.out hp (isAt_none hi)
    have ho : insO L key n = (0, L.take k ++ ⟨key, n, false⟩ :: L.drop k) := by
      unfold insO; rw [if_neg hsz, hg]; simp only
      rw [pos_add HL.out (x := ⟨key, n, false⟩) hp (isAt_none hi)]
    have HEND : Hid (∀ w3 lv3, Below w1.heap.size w1 w3 → RowR w1.heap.size w3 lv3 (L.take k ++ ⟨key, n, false⟩ :: L.drop (k)) → RO base w b (.slice (some ⟨g, 0, none⟩) L.length cap) (insO L key n) (.returned (.int .i64 0)) (w3.setCell ⟨b, 0, none⟩ lv3)) := fun w3 lv3 h1 h2 => RO.fresh hr hb1 hblt h1 h2 (Nat.le_trans hbase hb1.size) ho
    have HR1 : Hid (RT base w1 b (.slice (some ⟨g, 0, none⟩) L.length cap) L) := hr
    have HE : Hid (RowR w1.heap.size w1 (.slice none 0 0) []) := Row.nil_ _ _ _ _ _
    have hLT : (L.take k).length = k := by rw [List.length_take]; omega
    have HLT : Hid ((L.take k).length = k) := hLT
    have hLD : (L.drop (k)).length = L.length - (k) := by rw [List.length_drop]
    have HLD : Hid ((L.drop (k)).length = L.length - (k)) := hLD
    have hbr := build_r
    have hbs := build_rs
    have HT : Hid _ := hr.takeC k
    clear hr hp hi hb1 HR HL hg ho hLT hLD
    simp only
    go_wp2_with (first | (at_builtin; refine wp_appR _ rfl _ _ rfl w1.heap.size _ [] rfl HE.out _ _ _ (L.take k) rfl (Or.inr ⟨_, rfl, HT.out⟩) HLT.out (by simp; omega) (Nat.le_refl _) ?_))
    intro so sn sc w2 hsn hrow2 hgr2
    clear hsn
    have hb2 := grow_none hgr2
    have hr2 := HR1.out.below hb2
    have c0 := hr2.cell
    have HB2 : Hid (Below w1.heap.size w1 w2) := hb2
    have HW2 : Hid (RowR w1.heap.size w2 (.slice so sn sc) (L.take k)) := hrow2
    have hbx : Below w2.heap.size w2 (w2.alloc (.cells #[.string key, .int .i64 n, .bool false] 56)) := (Below.refl _ _).alloc (Nat.le_refl _) _
    have HB3 : Hid (Below w1.heap.size w1 (w2.alloc (.cells #[.string key, .int .i64 n, .bool false] 56))) := hb2.trans (hbx.mono hb2.size)
    have HW3 : Hid (RowR w1.heap.size (w2.alloc (.cells #[.string key, .int .i64 n, .bool false] 56)) (.slice so sn sc) (L.take k)) := Row.of_block hrow2 (fun c hc => hbx.block c (hrow2.lo c hc).2)
    have HX : Hid _ := one_cells w2 ⟨key, n, false⟩
    clear hb2 hrow2 hgr2 hr2 HT HE hbx c0
    go_wp2_with (first | (at_builtin; refine wp_appR _ rfl _ _ rfl w1.heap.size _ (L.take k) rfl HW3.out _ _ _ [⟨key, n, false⟩] rfl (Or.inr ⟨_, rfl, HX.out⟩) rfl (by rw [HLT.out]; omega) HB3.out.size ?_))
    intro so3 sn3 sc3 w3 hsn3 hrow3 hgr3
    clear hsn3
    have hb3 := grow_more HB3.out HW3.out hgr3
    have hr3 := HR1.out.below hb3
    have c0 := hr3.cell
    have HD : Hid _ := hr3.dropC (k) (by omega)
    have HB4 : Hid (Below w1.heap.size w1 w3) := hb3
    have HW4 : Hid (RowR w1.heap.size w3 (.slice so3 sn3 sc3) (L.take k ++ [⟨key, n, false⟩])) := hrow3
    clear hb3 hrow3 hgr3 hr3 HX HW3 HB3
    by_cases hcd : cap = k
    · have hND : L.drop (k) = [] := List.drop_eq_nil_of_le (by omega)
      have HND : Hid (L.drop (k) = []) := hND
      clear hND
      subst cap
      go_wp2_with (first | (at_builtin; refine wp_appR _ rfl _ _ rfl w1.heap.size (.slice so3 sn3 sc3) (L.take k ++ [⟨key, n, false⟩]) (by rfl) HW4.out _ _ _ (L.drop (k)) rfl (Or.inl HND.out) (by first | exact HLD.out | (rw [HND.out]; rfl)) (by rw [List.length_append, HLT.out, List.length_singleton]; omega) HB4.out.size ?_))
      intro so4 sn4 sc4 w4 hsn4 hrow4 hgr4
      clear hsn4
      have hb4 := grow_more HB4.out HW4.out hgr4
      have hr4 := HR1.out.below hb4
      have c0 := hr4.cell
      have fz := frozen_row hr4.hb 0
      have HO2 : Hid _ := HEND.out w4 _ hb4 hrow4
      clear hb4 hrow4 hgr4 hr4 HD HW4 HB4
      go_wp2_with fail
      go_ret
      exact HO2.out
    · have hcd2 : k < cap := by omega
      go_wp2_with (first | (at_builtin; refine wp_appR _ rfl _ _ rfl w1.heap.size (.slice so3 sn3 sc3) (L.take k ++ [⟨key, n, false⟩]) (by rfl) HW4.out _ _ _ (L.drop (k)) rfl (Or.inr ⟨_, rfl, HD.out⟩) HLD.out (by rw [List.length_append, HLT.out, List.length_singleton]; omega) HB4.out.size ?_))
      intro so4 sn4 sc4 w4 hsn4 hrow4 hgr4
      clear hsn4
      have hb4 := grow_more HB4.out HW4.out hgr4
      have hr4 := HR1.out.below hb4
      have c0 := hr4.cell
      have fz := frozen_row hr4.hb 0
      have HO2 : Hid _ := HEND.out w4 _ hb4 hrow4
      clear hb4 hrow4 hgr4 hr4 HD HW4 HB4
      go_wp2_with fail
      go_ret
      exact HO2.out
  | true =>
    obtain ⟨hk, he⟩ := isAt_some hi
    have hg := pos_some HL.out hk he
    obtain ⟨_, _, e2⟩ := hr.ent k hk
    cases hgh : L[k].ghost with
    | false =>
      rw [hgh] at e2
      have HO : Hid (RO base w b (.slice (some ⟨g, 0, none⟩) L.length cap) (insO L key n) (.returned (.int .i64 91)) w1) := RO.same HR.out hb1 (by unfold insO; rw [if_neg hsz, hg]; simp [hgh])
      clear hr hp hi hb1 HR HL hg he hgh
      simp only
      go_wp2_with fail
      go_ret
      exact HO.out
    | true =>
      rw [hgh] at e2
      have ho : insO L key n = (0, L.take k ++ ⟨key, n, false⟩ :: L.drop (k + 1)) := by
        unfold insO; rw [if_neg hsz, hg]; simp only [hgh, if_true]
        rw [pos_set HL.out hk (x := ⟨key, n, false⟩) he.symm, set_split hk]
      have HEND : Hid (∀ w3 lv3, Below w1.heap.size w1 w3 → RowR w1.heap.size w3 lv3 (L.take k ++ ⟨key, n, false⟩ :: L.drop (k + 1)) → RO base w b (.slice (some ⟨g, 0, none⟩) L.length cap) (insO L key n) (.returned (.int .i64 0)) (w3.setCell ⟨b, 0, none⟩ lv3)) := fun w3 lv3 h1 h2 => RO.fresh hr hb1 hblt h1 h2 (Nat.le_trans hbase hb1.size) ho
      have HR1 : Hid (RT base w1 b (.slice (some ⟨g, 0, none⟩) L.length cap) L) := hr
      have HE : Hid (RowR w1.heap.size w1 (.slice none 0 0) []) := Row.nil_ _ _ _ _ _
      have hLT : (L.take k).length = k := by rw [List.length_take]; omega
      have HLT : Hid ((L.take k).length = k) := hLT
      have hLD : (L.drop (k + 1)).length = L.length - (k + 1) := by rw [List.length_drop]
      have HLD : Hid ((L.drop (k + 1)).length = L.length - (k + 1)) := hLD
      have hbr := build_r
      have hbs := build_rs
      have HT : Hid _ := hr.takeC k
      clear hr hp hi hb1 HR HL hg ho hLT hLD he hgh
      simp only
      go_wp2_with (first | (at_builtin; refine wp_appR _ rfl _ _ rfl w1.heap.size _ [] rfl HE.out _ _ _ (L.take k) rfl (Or.inr ⟨_, rfl, HT.out⟩) HLT.out (by simp; omega) (Nat.le_refl _) ?_))
      intro so sn sc w2 hsn hrow2 hgr2
      clear hsn
      have hb2 := grow_none hgr2
      have hr2 := HR1.out.below hb2
      have c0 := hr2.cell
      have HB2 : Hid (Below w1.heap.size w1 w2) := hb2
      have HW2 : Hid (RowR w1.heap.size w2 (.slice so sn sc) (L.take k)) := hrow2
      have hbx : Below w2.heap.size w2 (w2.alloc (.cells #[.string key, .int .i64 n, .bool false] 56)) := (Below.refl _ _).alloc (Nat.le_refl _) _
      have HB3 : Hid (Below w1.heap.size w1 (w2.alloc (.cells #[.string key, .int .i64 n, .bool false] 56))) := hb2.trans (hbx.mono hb2.size)
      have HW3 : Hid (RowR w1.heap.size (w2.alloc (.cells #[.string key, .int .i64 n, .bool false] 56)) (.slice so sn sc) (L.take k)) := Row.of_block hrow2 (fun c hc => hbx.block c (hrow2.lo c hc).2)
      have HX : Hid _ := one_cells w2 ⟨key, n, false⟩
      clear hb2 hrow2 hgr2 hr2 HT HE hbx c0 e2
      go_wp2_with (first | (at_builtin; refine wp_appR _ rfl _ _ rfl w1.heap.size _ (L.take k) rfl HW3.out _ _ _ [⟨key, n, false⟩] rfl (Or.inr ⟨_, rfl, HX.out⟩) rfl (by rw [HLT.out]; omega) HB3.out.size ?_))
      intro so3 sn3 sc3 w3 hsn3 hrow3 hgr3
      clear hsn3
      have hb3 := grow_more HB3.out HW3.out hgr3
      have hr3 := HR1.out.below hb3
      have c0 := hr3.cell
      have HD : Hid _ := hr3.dropC (k + 1) (by omega)
      have HB4 : Hid (Below w1.heap.size w1 w3) := hb3
      have HW4 : Hid (RowR w1.heap.size w3 (.slice so3 sn3 sc3) (L.take k ++ [⟨key, n, false⟩])) := hrow3
      clear hb3 hrow3 hgr3 hr3 HX HW3 HB3
      by_cases hcd : cap = k + 1
      · have hND : L.drop (k + 1) = [] := List.drop_eq_nil_of_le (by omega)
        have HND : Hid (L.drop (k + 1) = []) := hND
        clear hND
        subst cap
        go_wp2_with (first | (at_builtin; refine wp_appR _ rfl _ _ rfl w1.heap.size (.slice so3 sn3 sc3) (L.take k ++ [⟨key, n, false⟩]) (by rfl) HW4.out _ _ _ (L.drop (k + 1)) rfl (Or.inl HND.out) (by first | exact HLD.out | (rw [HND.out]; rfl)) (by rw [List.length_append, HLT.out, List.length_singleton]; omega) HB4.out.size ?_))
        intro so4 sn4 sc4 w4 hsn4 hrow4 hgr4
        clear hsn4
        have hb4 := grow_more HB4.out HW4.out hgr4
        have hr4 := HR1.out.below hb4
        have c0 := hr4.cell
        have fz := frozen_row hr4.hb 0
        have HO2 : Hid _ := HEND.out w4 _ hb4 hrow4
        clear hb4 hrow4 hgr4 hr4 HD HW4 HB4
        go_wp2_with fail
        go_ret
        exact HO2.out
      · have hcd2 : k + 1 < cap := by omega
        go_wp2_with (first | (at_builtin; refine wp_appR _ rfl _ _ rfl w1.heap.size (.slice so3 sn3 sc3) (L.take k ++ [⟨key, n, false⟩]) (by rfl) HW4.out _ _ _ (L.drop (k + 1)) rfl (Or.inr ⟨_, rfl, HD.out⟩) HLD.out (by rw [List.length_append, HLT.out, List.length_singleton]; omega) HB4.out.size ?_))
        intro so4 sn4 sc4 w4 hsn4 hrow4 hgr4
        clear hsn4
        have hb4 := grow_more HB4.out HW4.out hgr4
        have hr4 := HR1.out.below hb4
        have c0 := hr4.cell
        have fz := frozen_row hr4.hb 0
        have HO2 : Hid _ := HEND.out w4 _ hb4 hrow4
        clear hb4 hrow4 hgr4 hr4 HD HW4 HB4
        go_wp2_with fail
        go_ret
        exact HO2.out
set_option maxRecDepth 20000 in
set_option maxHeartbeats 8000000 in
theorem rinsert_nil {base : Nat} {w : World} {b : Nat} (h : RT base w b (.slice none 0 0) []) (hbase : base ≤ w.heap.size) (key : ByteArray) (n : Int) (hsz : ¬ 2000 < key.size) :
    Calls Try.prog 21 #[pt b, .string key, .int .i64 n] w fun e w' => RO base w b (.slice none 0 0) (insO [] key n) e w' := by
  have hz : ¬ ((2000 : Int) < (key.size : Int)) := by omega
  have ha := rat_any h (by simp) key
  have HR : Hid (RT base w b (.slice none 0 0) []) := h
  have hblt := h.lt
  clear h
  go_enter Try.func21, Try.ntmps21
  go_wp2_with fail
  refine ha.mono ?_
  clear ha
  rintro e w1 ⟨k, hp, rfl, hb1⟩
  obtain rfl : k = 0 := by have := hp.le; simpa using this
  have hr := HR.out.below hb1
  have c0 := hr.cell
  have ho : insO [] key n = (0, [⟨key, n, false⟩]) := by unfold insO; rw [if_neg hsz]; rfl
  have hi : isAt [] key 0 = false := rfl
  rw [hi]
  have HEND : Hid (∀ w3 lv3, Below w1.heap.size w1 w3 → RowR w1.heap.size w3 lv3 [⟨key, n, false⟩] → RO base w b (.slice none 0 0) (insO [] key n) (.returned (.int .i64 0)) (w3.setCell ⟨b, 0, none⟩ lv3)) := fun w3 lv3 h1 h2 => RO.fresh hr hb1 hblt h1 h2 (Nat.le_trans hbase hb1.size) ho
  have HR1 : Hid (RT base w1 b (.slice none 0 0) []) := hr
  have HE : Hid (RowR w1.heap.size w1 (.slice none 0 0) []) := Row.nil_ _ _ _ _ _
  have hbr := build_r
  have hbs := build_rs
  clear hr hp hi hb1 HR ho
  simp only
  go_wp2_with (first | (at_builtin; refine wp_appR _ rfl _ _ rfl w1.heap.size (.slice none 0 0) [] (by rfl) HE.out _ _ _ [] rfl (Or.inl rfl) rfl (by simp) (Nat.le_refl _) ?_))
  intro so sn sc w2 hsn hrow2 hgr2
  clear hsn
  have hb2 := grow_none hgr2
  have hbx : Below w2.heap.size w2 (w2.alloc (.cells #[.string key, .int .i64 n, .bool false] 56)) := (Below.refl _ _).alloc (Nat.le_refl _) _
  have HB3 : Hid (Below w1.heap.size w1 (w2.alloc (.cells #[.string key, .int .i64 n, .bool false] 56))) := hb2.trans (hbx.mono hb2.size)
  have HW3 : Hid (RowR w1.heap.size (w2.alloc (.cells #[.string key, .int .i64 n, .bool false] 56)) (.slice so sn sc) []) := Row.of_block hrow2 (fun c hc => hbx.block c (hrow2.lo c hc).2)
  have HX : Hid _ := one_cells w2 ⟨key, n, false⟩
  clear hb2 hrow2 hgr2 HE hbx c0
  go_wp2_with (first | (at_builtin; refine wp_appR _ rfl _ _ rfl w1.heap.size (.slice so sn sc) [] (by rfl) HW3.out _ _ _ [⟨key, n, false⟩] rfl (Or.inr ⟨_, rfl, HX.out⟩) rfl (by simp) HB3.out.size ?_))
  intro so3 sn3 sc3 w3 hsn3 hrow3 hgr3
  clear hsn3
  have hb3 := grow_more HB3.out HW3.out hgr3
  have hr3 := HR1.out.below hb3
  have c0 := hr3.cell
  have HB4 : Hid (Below w1.heap.size w1 w3) := hb3
  have HW4 : Hid (RowR w1.heap.size w3 (.slice so3 sn3 sc3) [⟨key, n, false⟩]) := hrow3
  clear hb3 hrow3 hgr3 hr3 HX HW3 HB3
  go_wp2_with (first | (at_builtin; refine wp_appR _ rfl _ _ rfl w1.heap.size (.slice so3 sn3 sc3) [⟨key, n, false⟩] (by rfl) HW4.out _ _ _ [] rfl (Or.inl rfl) rfl (by simp) HB4.out.size ?_))
  intro so4 sn4 sc4 w4 hsn4 hrow4 hgr4
  clear hsn4
  have hb4 := grow_more HB4.out HW4.out hgr4
  have hr4 := HR1.out.below hb4
  have c0 := hr4.cell
  have fz := frozen_row hr4.hb 0
  have HO2 : Hid _ := HEND.out w4 _ hb4 hrow4
  clear hb4 hrow4 hgr4 hr4 HW4 HB4
  go_wp2_with fail
  go_ret
  exact HO2.out
theorem rinsert_any {base : Nat} {w : World} {b : Nat} {lv : Value} {L : List E} (h : RT base w b lv L) (hl : Line L) (hlen : L.length ≤ 90000) (hbase : base ≤ w.heap.size) (key : ByteArray) (n : Int) :
    Calls Try.prog 21 #[pt b, .string key, .int .i64 n] w fun e w' => RO base w b lv (insO L key n) e w' := by
  by_cases hsz : 2000 < key.size
  · have hz : (2000 : Int) < (key.size : Int) := by omega
    have HO : Hid (RO base w b lv (insO L key n) (.returned (.int .i64 93)) w) := RO.same h (Below.refl _ _) (by unfold insO; rw [if_pos hsz])
    clear h hl
    go_enter Try.func21, Try.ntmps21
    go_wp2_with fail
    go_ret
    exact HO.out
  · rcases id h.row with ⟨_, ⟨hv, hn⟩ | ⟨g, cap, cur, hv, hg, hh, hc, hm, _⟩⟩
    · have : L = [] := List.eq_nil_of_length_eq_zero hn
      subst this hv
      exact rinsert_nil h hbase key n hsz
    · subst hv
      exact rinsert_some h hc hl hlen hbase key n hsz
end Go.Proofs.Ytfobcnmhghfanaa
