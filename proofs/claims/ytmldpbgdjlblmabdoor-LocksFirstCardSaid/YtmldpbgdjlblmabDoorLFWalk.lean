/- The walk of the law LocksFirst. -/
import Derived.Test.YtmldpbgdjlblmabDoorLFA
import Derived.Lib.QuietBelow
namespace Go.Proofs.YtmldpbgdjlblmabDoor
open Go.RowKit Go.Joins Go.Maps Go.Shelf
set_option linter.unusedVariables false
set_option linter.unusedSimpArgs false

theorem Ops11.below1 {w w' : World} {v : Value} {rs : List Op11} (h : Ops11 w v rs) (hb : Below w.heap.size w w') : Ops11 w' v rs := by
  obtain ⟨ao, cap, h1, h2, h3⟩ := h
  refine ⟨ao, cap, h1, h2, h3.imp id (fun ⟨g, o, e, hX⟩ => ⟨g, o, e, fun k hk j u hu => cell_keep hb (hX k hk j u hu)⟩)⟩
/-- Two objects held against one another by '!='. -/
theorem chain_ne (sa sb : Int) (ta la ua tb lb' ub : ByteArray) (na nb : Bool) (w : World) : (if sa = sb then if ta.toList = tb.toList then if la.toList = lb'.toList then if ua.toList = ub.toList then if na = nb then Result.ok (Next.value (Value.bool false)) w else Result.ok (Next.value (Value.bool true)) w else Result.ok (Next.value (Value.bool true)) w else Result.ok (Next.value (Value.bool true)) w else Result.ok (Next.value (Value.bool true)) w else Result.ok (Next.value (Value.bool true)) w) = Result.ok (Next.value (Value.bool (!oe ⟨sa, ta, la, ua, na⟩ ⟨sb, tb, lb', ub, nb⟩))) w := by
  simp only [oe]
  repeat' split
  all_goals simp_all
/-- Has its transaction that object by another request? -/
def hadK (L : List Rq) (r : Rq) (i k : Nat) : Bool := (List.range k).any fun j => decide (j ≠ i) && (atR L j).gr && decide ((atR L j).tx = r.tx) && oe (atR L j).ob r.ob
theorem hadK_succ (L : List Rq) (r : Rq) (i k : Nat) : hadK L r i (k + 1) = (hadK L r i k || (decide (k ≠ i) && (atR L k).gr && decide ((atR L k).tx = r.tx) && oe (atR L k).ob r.ob)) := by
  unfold hadK
  rw [List.range_succ, List.any_append]
  simp
theorem hadK_of {L : List Rq} (h : FI L) {k i : Nat} (hki : k < i) (hi : i < L.length) (h1 : L[k].gr = false) (h2 : L[i].gr = true) (h3 : ¬ L[k].tx = L[i].tx) (h4 : L[k].ob = L[i].ob) (h5 : fi L[k].md L[i].md = false) : hadK L L[i] i L.length = true := by
  obtain ⟨j, g, q1, q2, q3, q4, q5⟩ := h k i L[k] L[i] hki (List.getElem?_eq_getElem (by omega)) (List.getElem?_eq_getElem hi) h1 h2 h3 h4 h5
  obtain ⟨hj, e⟩ := List.getElem?_eq_some_iff.1 q2
  unfold hadK
  rw [List.any_eq_true]
  refine ⟨j, List.mem_range.2 hj, ?_⟩
  rw [atR_lt hj, e, q3, q4, q5, oe_refl]
  simp [q1]
set_option maxRecDepth 100000 in
set_option maxHeartbeats 4000000 in
theorem first_law (v : Value) (rs : List Op11) (w : World) (hx : Ops11 w v rs) (hL : LibW w) (hb : rs.length * 96 ≤ 140737488355328) :
    Calls Tryd.prog 3 #[v] w fun e w' => e = .returned (.bool true) ∧ Below w.heap.size w w' := by
  have HL : Hid (LibW w) := hL
  have HZ : Hid (OwnO w.heap.size w (.slice none 0 0) (FO rs 0)) := Row.nil_ _ _ _ _ _
  obtain ⟨ao, cap, rfl, hcap, hrow⟩ := hx
  clear hL
  go_enter Tryd.func3, Tryd.ntmps3
  go_wp2_with fail
  go_loopw [3, 4] (fun sv x wr => ∃ (k : Nat) (so : Option Addr) (sn sc : Nat), sv = .slice so sn sc ∧ x = .int .i64 k ∧ k ≤ rs.length ∧ Hid (OwnO w.heap.size wr (.slice so sn sc) (FO rs k)) ∧ Hid (Below w.heap.size w wr)) (fun _ x _ => rs.length - (intOf x).toNat)
  case atStart => exact ⟨0, none, 0, 0, rfl, rfl, Nat.zero_le _, HZ, Below.refl _ _⟩
  case round =>
    rename World => wr
    obtain ⟨k, so, sn, sc, rfl, rfl, hk, HR, HB⟩ := hrel
    clear HZ
    by_cases hlt : k < rs.length
    · have tk : (k : Int) < (rs.length : Int) := by omega
      rcases hrow with h0 | ⟨g, o, rfl, hX⟩
      · rw [h0] at hlt; simp at hlt
      have hrg0 := hX k hlt
      have hop0 := OpAt.of_range hrg0
      have hgl : g < w.heap.size := World.block_lt_of_cell? w _ hop0.c0
      have q0 := (hop0.below HB.out hgl).c0
      have hrg : wr.rangeAt g (o + k * 9) (cells11 rs[k]) := fun j u hu => (HB.out.cell (p := ⟨g, o + k * 9 + j, none⟩) hgl).trans (hrg0 j u hu)
      by_cases h3 : rs[k].kind = 3
      · have HN : Hid (OwnO w.heap.size wr (.slice so sn sc) (FO rs (k + 1))) := by rw [FO_no hlt h3]; exact HR
        rw [h3] at q0
        clear hop0 hrg0 hrg HR
        go_wp2_with fail
        go_roundw
        case rel => exact ⟨k + 1, so, sn, sc, rfl, by go_num, by omega, HN, HB⟩
        case measure => simp [intOf]; omega
      · have hfl : ((FO rs k).length + 1) * 96 ≤ 140737488355328 := by have := FO_len rs k; omega
        have HSU := Hid.mk' (FO_yes hlt h3)
        have hsn := Row.len HR.out
        subst hsn
        have h3' : (rs[k].kind == 3) = false := by simpa using h3
        have h3'' : (rs[k].kind != 3) = true := by simpa using h3
        clear hop0 hrg0
        generalize rs[k] = x at *
        obtain ⟨kd, xt, ⟨sa, ta, la, ua, na⟩, xm, xs⟩ := x
        simp only at q0 h3 h3' h3''
        simp only [cells11] at hrg
        have hrA : OwnO w.heap.size (wr.alloc (.cells #[.int .i64 kd, .int .i64 xt, .int .i64 sa, .string ta, .string la, .string ua, .bool na, .int .i64 xm, .bool xs] 26)) (.slice so (FO rs k).length sc) (FO rs k) := World.ownsRow.alloc HR.out _
        have hnA : (wr.alloc (.cells #[.int .i64 kd, .int .i64 xt, .int .i64 sa, .string ta, .string la, .string ua, .bool na, .int .i64 xm, .bool xs] 26)).heap[wr.heap.size]? = some (.cells (cells11 ⟨kd, xt, ⟨sa, ta, la, ua, na⟩, xm, xs⟩).toArray 26 (0, 0)) := heap_alloc_new wr _
        have hbA : Below wr.heap.size wr (wr.alloc (.cells #[.int .i64 kd, .int .i64 xt, .int .i64 sa, .string ta, .string la, .string ua, .bool na, .int .i64 xm, .bool xs] 26)) := (Below.refl _ _).alloc (Nat.le_refl _) _
        have hsA : w.heap.size ≤ (wr.alloc (.cells #[.int .i64 kd, .int .i64 xt, .int .i64 sa, .string ta, .string la, .string ua, .bool na, .int .i64 xm, .bool xs] 26)).heap.size := Nat.le_trans HB.out.size hbA.size
        have HST : Hid (∀ (w3 : World) (g' cp' : Nat), OwnO w.heap.size w3 (.slice (some ⟨g', 0, none⟩) ((FO rs k).length + 1) cp') (FO rs k ++ [⟨kd, xt, ⟨sa, ta, la, ua, na⟩, xm, xs⟩]) → (wr.alloc (.cells #[.int .i64 kd, .int .i64 xt, .int .i64 sa, .string ta, .string la, .string ua, .bool na, .int .i64 xm, .bool xs] 26)).grownBy w3 (Value.slice so (FO rs k).length sc).ownBlock → OwnO w.heap.size w3 (.slice (some ⟨g', 0, none⟩) ((FO rs k).length + 1) cp') (FO rs (k + 1)) ∧ Below w.heap.size w w3) := fun w3 g' cp' g1 g2 => by
          rw [HSU.out]
          have hf : Fr (wr.alloc (.cells #[.int .i64 kd, .int .i64 xt, .int .i64 sa, .string ta, .string la, .string ua, .bool na, .int .i64 xm, .bool xs] 26)) w3 (fun i => (Value.slice so (FO rs k).length sc).ownBlock = some i) := Fr.of_grown g2 (fun i hi => hi)
          exact ⟨g1, (HB.out.trans (hbA.mono HB.out.size)).trans (hf.below hsA (fun i hi => (HR.out.lo i hi).1))⟩
        clear HSU HR hbA
        generalize FO rs k = F at *
        go_wp2_with (first
            | (guard_target = wpList _ _ _ (Oper.mk _ (Op.load 26 _) _ _ _ _ :: _) _ _; refine wpList_load_mid rfl 26 _ rfl g (o + k * 9) (by rfl) _ _ hrg Tryd.underlying26 rfl sizeO ?_)
            | (at_builtin; refine wp_appO _ rfl _ _ rfl w.heap.size _ F rfl hrA wr.heap.size ⟨kd, xt, ⟨sa, ta, la, ua, na⟩, xm, xs⟩ rfl hnA hfl hsA ?_))
        intro g' cp' w3 g1 g2
        obtain ⟨hR3, hB3⟩ := HST.out w3 g' cp' g1 g2
        have H3 := Hid.mk' (And.intro hR3 hB3)
        clear g1 g2 hR3 hB3 HST HB
        go_wp2_with fail
        go_roundw
        case rel => exact ⟨k + 1, _, _, _, rfl, by go_num, by omega, H3.out.1, H3.out.2⟩
        case measure => simp [intOf]; omega
    · have tk : ¬ (k : Int) < (rs.length : Int) := by omega
      obtain rfl : k = rs.length := by omega
      have hsn := Row.len HR.out
      subst hsn
      have HK : Hid (∀ x ∈ FO rs rs.length, ¬ x.kind = 3) := FO_kind
      have HS : Hid (Ops11 wr (.slice so (FO rs rs.length).length sc) (FO rs rs.length) ∧ LibW wr) := ⟨OwnO.ops HR.out, HL.out.keep HB.out⟩
      have hle5 : (FO rs rs.length).length ≤ sc := by
        obtain ⟨_, _, e5, hle5, _⟩ := OwnO.ops HR.out
        simp only [Value.slice.injEq, true_and] at e5
        obtain ⟨_, rfl⟩ := e5
        exact hle5
      clear HR HL hrow
      generalize FO rs rs.length = RS at *
      as_aux_lemma =>
        go_wp2_with fail
        go_loopw [5] (fun x wn => ∃ n : Nat, x = .int .i64 n ∧ 1 ≤ n ∧ n ≤ RS.length + 1 ∧ Hid (Below wr.heap.size wr wn)) (fun x _ => RS.length + 1 - (intOf x).toNat)
        case atStart => exact ⟨1, rfl, by omega, by omega, Below.refl _ _⟩
        case round =>
          rename World => wn
          obtain ⟨n, rfl, hn1, hn2, HBn⟩ := hrel
          by_cases hlt : n ≤ RS.length
          · have tk2 : (n : Int) ≤ (RS.length : Int) := by omega
            by_cases h40 : n ≤ 40
            · have t40 : (n : Int) ≤ 40 := by omega
              have hpl := play_any (HS.out.1.below1 HBn.out) (HS.out.2.keep HBn.out) n (by omega) (by omega)
              have HFI := Hid.mk' (first_run 500 (RS.take (n : Int).toNat) (fun x hx => HK.out x (List.mem_of_mem_take hx)))
              go_wp2_with fail
              refine hpl.mono ?_
              rintro e w1 ⟨t, rfl, hP, hb1⟩
              have H1 := Hid.mk' (And.intro hP (And.intro (keepA HBn.out hb1) (HS.out.2.keep (keepA HBn.out hb1))))
              generalize runF 500 (RS.take (n : Int).toNat) = L at *
              clear hpl hP hb1 HBn
              go_wp2_with fail
              refine (alive_any _ H1.out.2.2).mono ?_
              rintro e w2 ⟨rfl, hb2⟩
              have H2 := Hid.mk' (And.intro (H1.out.1.keep hb2) (keepA H1.out.2.1 hb2))
              clear H1 hb2
              have hlen := H2.out.1.len
              obtain ⟨lv, hT⟩ := H2.out.1.tb
              have hls := plist_any hT (by omega)
              clear hT
              go_wp2_with fail
              refine hls.mono ?_
              rintro e w3 ⟨v3, rfl, ho3, hb3⟩
              obtain ⟨a3, c3, rfl, hq3⟩ := CloneTo.list ho3
              have H3 := Hid.mk' (And.intro hq3 (keepA H2.out.2 hb3))
              clear H2 hls ho3 hq3 hb3
              have hl3 := H3.out.1.le
              have HB0 : Hid (Below w3.heap.size w3 w3) := Below.refl _ _
              go_wp2_with fail
              go_loopw [8] (fun x wi => ∃ i : Nat, x = .int .i64 i ∧ i ≤ L.length ∧ Hid (Below w3.heap.size w3 wi)) (fun x _ => L.length - (intOf x).toNat)
              case atStart => exact ⟨0, rfl, by omega, HB0⟩
              case round =>
                rename World => wi
                obtain ⟨i, rfl, hi, HBi⟩ := hrel
                clear HB0
                by_cases hil : i < L.length
                · have ti : (i : Int) < (L.length : Int) := by omega
                  go_wp2_with fail
                  go_loopw [9] (fun x wk => ∃ k : Nat, x = .int .i64 k ∧ k ≤ i ∧ Hid (Below w3.heap.size w3 wk)) (fun x _ => i - (intOf x).toNat)
                  case atStart => exact ⟨0, rfl, by omega, HBi⟩
                  case round =>
                    rename World => wk
                    obtain ⟨k, rfl, hk, HBk⟩ := hrel
                    clear HBi
                    by_cases hki : k < i
                    · have tki : (k : Int) < (i : Int) := by omega
                      have hkl : k < L.length := by omega
                      have tkl : (k : Int) < (L.length : Int) := by omega
                      obtain ⟨g, rfl, hqi⟩ := H3.out.1.at_ hil
                      obtain ⟨g2, eg, hqk⟩ := H3.out.1.at_ hkl
                      cases eg
                      have HIK : Hid (RqAt w3 g i L[i] ∧ RqAt w3 g k L[k]) := ⟨hqi, hqk⟩
                      clear hqi hqk
                      have HKK : Hid (∀ W', Below wk.heap.size wk W' → Below wk.heap.size wk W' ∧ W'.cell? ⟨g, i * 9 + 6, none⟩ = some (.int .i64 L[i].md) ∧ W'.cell? ⟨g, k * 9 + 6, none⟩ = some (.int .i64 L[k].md)) := fun W' hb => ⟨hb, cell_keep (keepA HBk.out hb) HIK.out.1.c6, cell_keep (keepA HBk.out hb) HIK.out.2.c6⟩
                      have HFH : Hid (fi L[k].md L[i].md = false → L[k].gr = false → L[i].gr = true → ¬ L[k].tx = L[i].tx → L[k].ob = L[i].ob → hadK L L[i] i L.length = true) := fun h5 h1 h2 h3 h4 => hadK_of HFI.out hki hil h1 h2 h3 h4 h5
                      go_wp2_with fail
                      go_cut [10] (fun v10 wx => v10 = .bool (fi L[k].md L[i].md || fi L[i].md L[k].md) ∧ Hid (Below wk.heap.size wk wx))
                      case first =>
                        generalize L[i].md = mi at *
                        generalize L[k].md = mk at *
                        obtain ⟨_, ci0, ck0⟩ := HKK.out _ (Below.refl _ _)
                        have ci := fun (d : Nat) (os : Array Obj) => cell_regrown ci0 d os
                        have ck := fun (d : Nat) (os : Array Obj) => cell_regrown ck0 d os
                        have c1 := fun W' => fits_ref mk mi W'
                        have c2 := fun W' => fits_ref mi mk W'
                        clear HFH HFI HIK H3 HS HK HB HKK ci0 ck0
                        cases h1 : fi mk mi with
                        | true =>
                          rw [h1] at c1
                          as_aux_lemma =>
                            refine wp_region_quiet_below (by kernel_rfl) (by kernel_rfl) ?_
                            repeat (go_big_quiet_step (with_reducible exact Calls.regrown_of (c1 _)))
                            refine wpQuiet_nil ?_
                            intro _ hw'
                            obtain ⟨⟨dq, osq⟩, hw''⟩ := hw'
                            subst hw''
                            have hk' := below_regrown wk dq osq
                            go_wp2
                            go_meet
                            case rel => exact ⟨by rw [h1]; rfl, hk'⟩
                        | false =>
                          rw [h1] at c1
                          cases h2 : fi mi mk with
                          | true =>
                            rw [h2] at c2
                            as_aux_lemma =>
                              refine wp_region_quiet_below (by kernel_rfl) (by kernel_rfl) ?_
                              repeat (go_big_quiet_step (first | with_reducible exact Calls.regrown_of (c1 _) | with_reducible exact Calls.regrown_of (c2 _)))
                              refine wpQuiet_nil ?_
                              intro _ hw'
                              obtain ⟨⟨dq, osq⟩, hw''⟩ := hw'
                              subst hw''
                              have hk' := below_regrown wk dq osq
                              go_wp2
                              go_meet
                              case rel => exact ⟨by rw [h1, h2]; rfl, hk'⟩
                          | false =>
                            rw [h2] at c2
                            as_aux_lemma =>
                              refine wp_region_quiet_below (by kernel_rfl) (by kernel_rfl) ?_
                              repeat (go_big_quiet_step (first | with_reducible exact Calls.regrown_of (c1 _) | with_reducible exact Calls.regrown_of (c2 _)))
                              refine wpQuiet_nil ?_
                              intro _ hw'
                              obtain ⟨⟨dq, osq⟩, hw''⟩ := hw'
                              subst hw''
                              have hk' := below_regrown wk dq osq
                              go_wp2
                              go_meet
                              case rel => exact ⟨by rw [h1, h2]; rfl, hk'⟩
                      case rest =>
                        obtain ⟨rfl, hbc⟩ := hcut
                        have HBc := Hid.mk' (keepA HBk.out hbc.out)
                        as_aux_lemma =>
                          clear HKK hbc HBk
                          have HFF : Hid ((fi L[k].md L[i].md || fi L[i].md L[k].md) = false → fi L[k].md L[i].md = false) := fun h => by simp at h; exact h.1
                          generalize (fi L[k].md L[i].md || fi L[i].md L[k].md) = ff at *
                          obtain ⟨i0, i1, i2, i3, i4, i5, i6, i7, i8⟩ := HIK.out.1.keep HBc.out
                          obtain ⟨k0, k1, k2, k3, k4, k5, k6, k7, k8⟩ := HIK.out.2.keep HBc.out
                          clear i6 i8 k6 k8 HS HK HB
                          cases hgk : L[k].gr with
                          | true =>
                            rw [hgk] at k7
                            clear i0 i1 i2 i3 i4 i5 i7 k0 k1 k2 k3 k4 k5
                            as_aux_lemma =>
                              go_wp2_with fail
                              go_quiet (fail)
                              rename_i nq
                              have HN := Hid.mk' (below_drewN HBc.out nq)
                              go_wp2
                              go_roundw
                              case rel => exact ⟨k + 1, by go_num, by omega, HN⟩
                              case measure => simp [intOf]; omega
                          | false =>
                            rw [hgk] at k7
                            cases hgi : L[i].gr with
                            | false =>
                              rw [hgi] at i7
                              clear i0 i1 i2 i3 i4 i5 k0 k1 k2 k3 k4 k5
                              as_aux_lemma =>
                                go_wp2_with fail
                                go_quiet (fail)
                                rename_i nq
                                have HN := Hid.mk' (below_drewN HBc.out nq)
                                go_wp2
                                go_roundw
                                case rel => exact ⟨k + 1, by go_num, by omega, HN⟩
                                case measure => simp [intOf]; omega
                            | true =>
                              rw [hgi] at i7
                              by_cases ht : L[i].tx = L[k].tx
                              · rw [ht] at i0
                                generalize L[k].tx = xk at *
                                clear i1 i2 i3 i4 i5 k1 k2 k3 k4 k5
                                as_aux_lemma =>
                                  go_wp2_with fail
                                  go_quiet (fail)
                                  rename_i nq
                                  have HN := Hid.mk' (below_drewN HBc.out nq)
                                  go_wp2
                                  go_roundw
                                  case rel => exact ⟨k + 1, by go_num, by omega, HN⟩
                                  case measure => simp [intOf]; omega
                              · have ht2 : (L[i].tx == L[k].tx) = false := by simpa using ht
                                have hch := chain_ne L[i].ob.sp L[k].ob.sp L[i].ob.tb L[i].ob.lo L[i].ob.hi L[k].ob.tb L[k].ob.lo L[k].ob.hi L[i].ob.en L[k].ob.en
                                have HOE : Hid (oe ⟨L[i].ob.sp, L[i].ob.tb, L[i].ob.lo, L[i].ob.hi, L[i].ob.en⟩ ⟨L[k].ob.sp, L[k].ob.tb, L[k].ob.lo, L[k].ob.hi, L[k].ob.en⟩ = true → L[k].ob = L[i].ob) := fun h => (oe_iff.1 h).symm
                                generalize oe ⟨L[i].ob.sp, L[i].ob.tb, L[i].ob.lo, L[i].ob.hi, L[i].ob.en⟩ ⟨L[k].ob.sp, L[k].ob.tb, L[k].ob.lo, L[k].ob.hi, L[k].ob.en⟩ = oo at *
                                cases oo with
                                | false =>
                                  as_aux_lemma =>
                                    go_wp2_with fail
                                    go_quiet (fail)
                                    rename_i nq
                                    have HN := Hid.mk' (below_drewN HBc.out nq)
                                    go_wp2
                                    go_roundw
                                    case rel => exact ⟨k + 1, by go_num, by omega, HN⟩
                                    case measure => simp [intOf]; omega
                                | true =>
                                  cases ff with
                                  | true =>
                                    as_aux_lemma =>
                                      go_wp2_with fail
                                      go_quiet (fail)
                                      rename_i nq
                                      have HN := Hid.mk' (below_drewN HBc.out nq)
                                      go_wp2
                                      go_roundw
                                      case rel => exact ⟨k + 1, by go_num, by omega, HN⟩
                                      case measure => simp [intOf]; omega
                                  | false =>
                                    have HHD : Hid (hadK L L[i] i L.length = true) := HFH.out (HFF.out rfl) hgk hgi (fun e => ht e.symm) (HOE.out rfl)
                                    go_wp2_with fail
                                    go_quiet (fail)
                                    rename_i nq
                                    have HBd := Hid.mk' (below_drewN HBc.out nq)
                                    clear i0 i1 i2 i3 i4 i5 i7 k0 k1 k2 k3 k4 k5 k7 hch ht2 hgk HFF HFH HOE HBc
                                    generalize wc.drewN nq = wd at *
                                    as_aux_lemma =>
                                      go_wp2_with fail
                                      go_loopw [11, 12] (fun hv x wz => ∃ j : Nat, hv = .bool (hadK L L[i] i j) ∧ x = .int .i64 j ∧ j ≤ L.length ∧ ∃ q, wz = wd.drewN q) (fun _ x _ => L.length - (intOf x).toNat)
                                      case atStart => exact ⟨0, rfl, rfl, by omega, 0, rfl⟩
                                      case round =>
                                        obtain ⟨j, rfl, rfl, hj, q, rfl⟩ := hrel
                                        by_cases hjl : j < L.length
                                        · have tj : (j : Int) < (L.length : Int) := by omega
                                          obtain ⟨g9, eg9, hqj⟩ := H3.out.1.at_ hjl
                                          cases eg9
                                          obtain ⟨j0, j1, j2, j3, j4, j5, j6, j7, j8⟩ := hqj.keep HBd.out
                                          obtain ⟨i0, i1, i2, i3, i4, i5, i6, i7, i8⟩ := HIK.out.1.keep HBd.out
                                          have HSC := Hid.mk' (hadK_succ L L[i] i j)
                                          rw [atR_lt hjl] at HSC
                                          clear hqj i6 i7 i8 j6 j8
                                          generalize hadK L L[i] i j = hd at *
                                          cases hd with
                                          | true =>
                                            clear i0 i1 i2 i3 i4 i5 j0 j1 j2 j3 j4 j5 j7
                                            as_aux_lemma =>
                                              go_wp2_with fail
                                              go_quiet (fail)
                                              go_wp2
                                              go_roundw
                                              case rel => exact ⟨j + 1, by rw [HSC.out]; simp, by go_num, by omega, _, by first | rfl | trivial⟩
                                              case measure => simp [intOf]; omega
                                          | false =>
                                            by_cases hji : j = i
                                            · have tji : ((j : Int) == (i : Int)) = true := by rw [hji]; simp
                                              have tjn : ((j : Int) != (i : Int)) = false := by rw [hji]; simp
                                              clear i0 i1 i2 i3 i4 i5 j0 j1 j2 j3 j4 j5 j7
                                              have HJI : Hid (j = i) := hji
                                              clear hji
                                              as_aux_lemma =>
                                                go_wp2_with fail
                                                go_quiet (fail)
                                                go_wp2
                                                go_roundw
                                                case rel => exact ⟨j + 1, by rw [HSC.out, show decide (j ≠ i) = false from by simp [HJI.out]]; rfl, by go_num, by omega, _, by first | rfl | trivial⟩
                                                case measure => simp [intOf]; omega
                                            · have tji : ((j : Int) == (i : Int)) = false := by rw [beq_eq_false_iff_ne]; omega
                                              have tjn : ((j : Int) != (i : Int)) = true := by simp; omega
                                              cases hgj : L[j].gr with
                                              | false =>
                                                rw [hgj] at j7
                                                clear i0 i1 i2 i3 i4 i5 j0 j1 j2 j3 j4 j5
                                                as_aux_lemma =>
                                                  go_wp2_with fail
                                                  go_quiet (fail)
                                                  go_wp2
                                                  go_roundw
                                                  case rel => exact ⟨j + 1, by rw [HSC.out]; simp [hgj], by go_num, by omega, _, by first | rfl | trivial⟩
                                                  case measure => simp [intOf]; omega
                                              | true =>
                                                rw [hgj] at j7
                                                by_cases htj : L[j].tx = L[i].tx
                                                · rw [htj] at j0
                                                  have hch := chain_obj L[j].ob.sp L[i].ob.sp L[j].ob.tb L[j].ob.lo L[j].ob.hi L[i].ob.tb L[i].ob.lo L[i].ob.hi L[j].ob.en L[i].ob.en
                                                  generalize oe ⟨L[j].ob.sp, L[j].ob.tb, L[j].ob.lo, L[j].ob.hi, L[j].ob.en⟩ ⟨L[i].ob.sp, L[i].ob.tb, L[i].ob.lo, L[i].ob.hi, L[i].ob.en⟩ = oo at *
                                                  cases oo
                                                  all_goals
                                                    as_aux_lemma =>
                                                      go_wp2_with fail
                                                      go_quiet (fail)
                                                      go_wp2
                                                      go_roundw
                                                      case rel => exact ⟨j + 1, by rw [HSC.out]; simp [hgj, htj, hji], by go_num, by omega, _, by first | rfl | trivial⟩
                                                      case measure => simp [intOf]; omega
                                                · have htj2 : (L[j].tx == L[i].tx) = false := by simpa using htj
                                                  clear i1 i2 i3 i4 i5 j1 j2 j3 j4 j5
                                                  as_aux_lemma =>
                                                    go_wp2_with fail
                                                    go_quiet (fail)
                                                    go_wp2
                                                    go_roundw
                                                    case rel => exact ⟨j + 1, by rw [HSC.out]; simp [htj], by go_num, by omega, _, by first | rfl | trivial⟩
                                                    case measure => simp [intOf]; omega
                                        · have tj : ¬ (j : Int) < (L.length : Int) := by omega
                                          obtain rfl : j = L.length := by omega
                                          rw [HHD.out]
                                          have HN := Hid.mk' (below_drewN HBd.out q)
                                          go_wp2_with fail
                                          go_roundw
                                          case rel => exact ⟨k + 1, by go_num, by omega, HN⟩
                                          case measure => simp [intOf]; omega
                    · have tki : ¬ (k : Int) < (i : Int) := by omega
                      go_wp2_with fail
                      go_roundw
                      case rel => exact ⟨i + 1, by go_num, by omega, HBk⟩
                      case measure => simp [intOf]; omega
                · have ti : ¬ (i : Int) < (L.length : Int) := by omega
                  have HE : Hid (Below wr.heap.size wr wi) := keepA H3.out.2 HBi.out
                  go_wp2_with fail
                  go_roundw
                  case rel => exact ⟨n + 1, by go_num, by omega, by omega, HE⟩
                  case measure => simp [intOf]; omega
            · have t40 : ¬ (n : Int) ≤ 40 := by omega
              go_wp2_with fail
              go_ret
              exact ⟨rfl, keepA HB.out HBn.out⟩
          · have tk2 : ¬ (n : Int) ≤ (RS.length : Int) := by omega
            go_wp2_with fail
            go_ret
            exact ⟨rfl, keepA HB.out HBn.out⟩
end Go.Proofs.YtmldpbgdjlblmabDoor
