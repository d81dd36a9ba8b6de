/- The document's sorted list: Get, Next, Count. -/
import Derived.Test.YtfobcnmhghfanaaB9RA
namespace Go.Proofs.Ytfobcnmhghfanaa
open Go.RowKit Go.Shelf
set_option linter.unusedVariables false
set_option linter.unusedSimpArgs false

theorem isAt_some {L : List E} {key : ByteArray} {k : Nat} (h : isAt L key k = true) : ∃ hk : k < L.length, (L[k]'hk).key = key := by
  unfold isAt at h
  by_cases hk : k < L.length
  · rw [List.getElem?_eq_getElem hk] at h; exact ⟨hk, by simpa using h⟩
  · rw [List.getElem?_eq_none (by omega)] at h; cases h
theorem isAt_none {L : List E} {key : ByteArray} {k : Nat} (h : isAt L key k = false) : ∀ hk : k < L.length, (L[k]'hk).key ≠ key := by
  intro hk he
  unfold isAt at h
  rw [List.getElem?_eq_getElem hk] at h; simp [he] at h
set_option maxRecDepth 20000 in
set_option maxHeartbeats 2000000 in
theorem rget_any {base : Nat} {w : World} {b : Nat} {lv : Value} {L : List E} (h : RT base w b lv L) (hl : Line L) (hlen : L.length ≤ 900000) (key : ByteArray) :
    Calls Try.prog 24 #[pt b, .string key] w fun e w' => e = .returned (getV (getL L key)) ∧ Below w.heap.size w w' := by
  have ha := rat_any h hlen key
  have HR : Hid (RT base w b lv L) := h
  have HL : Hid (Line L) := hl
  clear h hl
  go_enter Try.func24, Try.ntmps24
  go_wp2_with fail
  refine ha.mono ?_
  clear ha
  rintro e w1 ⟨k, hp, rfl, hb1⟩
  have hr := HR.out.below hb1
  have HB : Hid (Below w.heap.size w w1) := hb1
  have hle := hp.le
  cases hi : isAt L key k with
  | false =>
    have HG : Hid _ := pos_none HL.out hp (isAt_none hi)
    clear hr hp hi hb1 HR HL
    simp only
    go_wp2_with fail
    refine bodyPost_ret (v := .tuple #[.int .i64 0, .bool false, .int .i64 92]) (by simp [results, Try.results24, go_sem]) rfl ?_
    exact ⟨by rw [HG.out]; rfl, HB.out⟩
  | true =>
    obtain ⟨hk, he⟩ := isAt_some hi
    have HG : Hid _ := pos_some HL.out hk he
    obtain ⟨g, cap, rfl, _⟩ := hr.row.at_ (by omega)
    have c0 := hr.cell
    obtain ⟨_, e1, e2⟩ := hr.ent k hk
    clear hr hp hi hb1 HR HL he
    generalize L[k] = ee at *
    obtain ⟨k0, n0, g0⟩ := ee
    simp only at e1 e2
    simp only
    go_wp2_with fail
    go_quiet (fail)
    go_wp2_with fail
    refine bodyPost_ret (v := .tuple #[.int .i64 n0, .bool g0, .int .i64 0]) (by simp [results, Try.results24, go_sem]) rfl ?_
    exact ⟨by rw [HG.out]; rfl, HB.out.trans ⟨rfl, rfl, rfl, Nat.le_refl _, fun _ _ => rfl⟩⟩
set_option maxRecDepth 20000 in
set_option maxHeartbeats 2000000 in
theorem rnext_any {base : Nat} {w : World} {b : Nat} {lv : Value} {L : List E} (h : RT base w b lv L) (hl : Line L) (hlen : L.length ≤ 900000) (key : ByteArray) (is : Bool) :
    Calls Try.prog 25 #[pt b, .string key, .bool is] w fun e w' => e = .returned (nextV (nextL L key is)) ∧ Below w.heap.size w w' := by
  have ha := rat_any h hlen key
  have HR : Hid (RT base w b lv L) := h
  have HL : Hid (Line L) := hl
  clear h hl
  go_enter Try.func25, Try.ntmps25
  go_wp2_with fail
  refine ha.mono ?_
  clear ha
  rintro e w1 ⟨k, hp, rfl, hb1⟩
  have HN : Hid _ := pos_next HL.out hp is
  have hle := hp.le
  simp only
  obtain ⟨t, ht⟩ : ∃ t, isAt L key k = t := ⟨_, rfl⟩
  rw [ht]
  have hr := HR.out.below hb1
  obtain ⟨ao, cap, rfl, _⟩ := hr.row.form
  have c0 := hr.cell
  have HB : Hid (Below w.heap.size w w1) := hb1
  clear hp hb1 HR HL
  cases t <;> cases is
  · obtain ⟨m, hm, hN2⟩ : ∃ m : Nat, m = k ∧ nextL L key false = L[m]? := ⟨_, rfl, by have := HN.out; rw [ht] at this; simpa using this⟩
    have HN2 : Hid (nextL L key false = L[m]?) := hN2
    clear hN2
    clear HN ht
    by_cases h1 : m < L.length
    · obtain ⟨g, cap', hv, _⟩ := hr.row.at_ (by omega)
      cases hv
      obtain ⟨e0, e1, e2⟩ := hr.ent m h1
      have hN3 : nextL L key false = some L[m] := by rw [HN2.out, List.getElem?_eq_getElem h1]
      have HN3 : Hid (nextL L key false = some L[m]) := hN3
      clear hr HN2 hN3
      generalize L[m] = ee at *
      obtain ⟨k0, n0, g0⟩ := ee
      simp only at e0 e1 e2
      subst hm
      go_wp2_with fail
      go_quiet (fail)
      go_wp2_with fail
      refine bodyPost_ret (v := .tuple #[.string k0, .int .i64 n0, .bool g0, .int .i64 0]) (by simp [results, Try.results25, go_sem]) rfl ?_
      exact ⟨by rw [HN3.out]; rfl, HB.out.trans ⟨rfl, rfl, rfl, Nat.le_refl _, fun _ _ => rfl⟩⟩
    · have hN3 : nextL L key false = none := by rw [HN2.out, List.getElem?_eq_none (by omega)]
      have HN3 : Hid (nextL L key false = none) := hN3
      clear hr HN2 hN3
      subst hm
      go_wp2_with fail
      refine bodyPost_ret (v := .tuple #[.string ByteArray.empty, .int .i64 0, .bool false, .int .i64 92]) (by simp [results, Try.results25, go_sem]; rfl) rfl ?_
      exact ⟨by rw [HN3.out]; rfl, HB.out⟩
  · obtain ⟨m, hm, hN2⟩ : ∃ m : Nat, m = k ∧ nextL L key true = L[m]? := ⟨_, rfl, by have := HN.out; rw [ht] at this; simpa using this⟩
    have HN2 : Hid (nextL L key true = L[m]?) := hN2
    clear hN2
    clear HN ht
    by_cases h1 : m < L.length
    · obtain ⟨g, cap', hv, _⟩ := hr.row.at_ (by omega)
      cases hv
      obtain ⟨e0, e1, e2⟩ := hr.ent m h1
      have hN3 : nextL L key true = some L[m] := by rw [HN2.out, List.getElem?_eq_getElem h1]
      have HN3 : Hid (nextL L key true = some L[m]) := hN3
      clear hr HN2 hN3
      generalize L[m] = ee at *
      obtain ⟨k0, n0, g0⟩ := ee
      simp only at e0 e1 e2
      subst hm
      go_wp2_with fail
      go_quiet (fail)
      go_wp2_with fail
      refine bodyPost_ret (v := .tuple #[.string k0, .int .i64 n0, .bool g0, .int .i64 0]) (by simp [results, Try.results25, go_sem]) rfl ?_
      exact ⟨by rw [HN3.out]; rfl, HB.out.trans ⟨rfl, rfl, rfl, Nat.le_refl _, fun _ _ => rfl⟩⟩
    · have hN3 : nextL L key true = none := by rw [HN2.out, List.getElem?_eq_none (by omega)]
      have HN3 : Hid (nextL L key true = none) := hN3
      clear hr HN2 hN3
      subst hm
      go_wp2_with fail
      refine bodyPost_ret (v := .tuple #[.string ByteArray.empty, .int .i64 0, .bool false, .int .i64 92]) (by simp [results, Try.results25, go_sem]; rfl) rfl ?_
      exact ⟨by rw [HN3.out]; rfl, HB.out⟩
  · obtain ⟨m, hm, hN2⟩ : ∃ m : Nat, m = k + 1 ∧ nextL L key false = L[m]? := ⟨_, rfl, by have := HN.out; rw [ht] at this; simpa using this⟩
    have HN2 : Hid (nextL L key false = L[m]?) := hN2
    clear hN2
    have hmi : (k : Int) + 1 = (m : Int) := by omega
    clear HN ht
    by_cases h1 : m < L.length
    · obtain ⟨g, cap', hv, _⟩ := hr.row.at_ (by omega)
      cases hv
      obtain ⟨e0, e1, e2⟩ := hr.ent m h1
      have hN3 : nextL L key false = some L[m] := by rw [HN2.out, List.getElem?_eq_getElem h1]
      have HN3 : Hid (nextL L key false = some L[m]) := hN3
      clear hr HN2 hN3
      generalize L[m] = ee at *
      obtain ⟨k0, n0, g0⟩ := ee
      simp only at e0 e1 e2
      clear hm
      go_wp2_with fail
      go_quiet (fail)
      go_wp2_with fail
      refine bodyPost_ret (v := .tuple #[.string k0, .int .i64 n0, .bool g0, .int .i64 0]) (by simp [results, Try.results25, go_sem]) rfl ?_
      exact ⟨by rw [HN3.out]; rfl, HB.out.trans ⟨rfl, rfl, rfl, Nat.le_refl _, fun _ _ => rfl⟩⟩
    · have hN3 : nextL L key false = none := by rw [HN2.out, List.getElem?_eq_none (by omega)]
      have HN3 : Hid (nextL L key false = none) := hN3
      clear hr HN2 hN3
      clear hm
      go_wp2_with fail
      refine bodyPost_ret (v := .tuple #[.string ByteArray.empty, .int .i64 0, .bool false, .int .i64 92]) (by simp [results, Try.results25, go_sem]; rfl) rfl ?_
      exact ⟨by rw [HN3.out]; rfl, HB.out⟩
  · obtain ⟨m, hm, hN2⟩ : ∃ m : Nat, m = k ∧ nextL L key true = L[m]? := ⟨_, rfl, by have := HN.out; rw [ht] at this; simpa using this⟩
    have HN2 : Hid (nextL L key true = L[m]?) := hN2
    clear hN2
    clear HN ht
    by_cases h1 : m < L.length
    · obtain ⟨g, cap', hv, _⟩ := hr.row.at_ (by omega)
      cases hv
      obtain ⟨e0, e1, e2⟩ := hr.ent m h1
      have hN3 : nextL L key true = some L[m] := by rw [HN2.out, List.getElem?_eq_getElem h1]
      have HN3 : Hid (nextL L key true = some L[m]) := hN3
      clear hr HN2 hN3
      generalize L[m] = ee at *
      obtain ⟨k0, n0, g0⟩ := ee
      simp only at e0 e1 e2
      subst hm
      go_wp2_with fail
      go_quiet (fail)
      go_wp2_with fail
      refine bodyPost_ret (v := .tuple #[.string k0, .int .i64 n0, .bool g0, .int .i64 0]) (by simp [results, Try.results25, go_sem]) rfl ?_
      exact ⟨by rw [HN3.out]; rfl, HB.out.trans ⟨rfl, rfl, rfl, Nat.le_refl _, fun _ _ => rfl⟩⟩
    · have hN3 : nextL L key true = none := by rw [HN2.out, List.getElem?_eq_none (by omega)]
      have HN3 : Hid (nextL L key true = none) := hN3
      clear hr HN2 hN3
      subst hm
      go_wp2_with fail
      refine bodyPost_ret (v := .tuple #[.string ByteArray.empty, .int .i64 0, .bool false, .int .i64 92]) (by simp [results, Try.results25, go_sem]; rfl) rfl ?_
      exact ⟨by rw [HN3.out]; rfl, HB.out⟩
theorem ghost_take (L : List E) (k : Nat) (h : k < L.length) : ghostN (L.take (k + 1)) = ghostN (L.take k) + (if L[k].ghost then 1 else 0) := by
  unfold ghostN
  rw [List.take_succ_eq_append_getElem h, List.countP_append, List.countP_cons, List.countP_nil]
  simp
set_option maxRecDepth 20000 in
set_option maxHeartbeats 2000000 in
theorem rcount_any {base : Nat} {w : World} {b : Nat} {lv : Value} {L : List E} (h : RT base w b lv L) (hlen : L.length ≤ 900000) :
    Calls Try.prog 12 #[pt b] w fun e w' => e = .returned (.tuple #[.int .i64 (liveN L : Nat), .int .i64 (ghostN L : Nat)]) ∧ Below w.heap.size w w' := by
  obtain ⟨ao, cap, rfl, hc, _⟩ := h.row.form
  have c0 := h.cell
  have HR : Hid (RT base w b (.slice ao L.length cap) L) := h
  clear h
  go_enter Try.func12, Try.ntmps12
  go_wp2_with fail
  go_loopw [4, 5] (fun gv i wr => ∃ k : Nat, gv = .int .i64 (ghostN (L.take k) : Nat) ∧ i = .int .i64 k ∧ k ≤ L.length ∧ wr = w) (fun _ i _ => L.length - (intOf i).toNat)
  case atStart => exact ⟨0, rfl, rfl, by omega, rfl⟩
  case round =>
    obtain ⟨k, rfl, rfl, hk, rfl⟩ := hrel
    by_cases h1 : k < L.length
    · obtain ⟨g, cap', hv, _⟩ := HR.out.row.at_ (by omega)
      cases hv
      obtain ⟨_, _, e2⟩ := HR.out.ent k h1
      have hs := ghost_take L k h1
      have hle : ghostN (L.take k) ≤ 900000 := Nat.le_trans (ghost_le _) (by simp; omega)
      generalize L[k].ghost = t at *
      generalize ghostN (L.take k) = gk at *
      cases t
      · go_wp2_with fail
        go_roundw
        case rel => exact ⟨k + 1, by rw [hs]; rfl, by go_num, by omega, by trivial⟩
        case measure => simp [intOf]; omega
      · go_wp2_with fail
        go_roundw
        case rel => exact ⟨k + 1, by rw [hs]; first | rfl | go_num, by go_num, by omega, by trivial⟩
        case measure => simp [intOf]; omega
    · obtain rfl : k = L.length := by omega
      rw [List.take_length]
      have hlg := live_ghost L
      obtain ⟨gh, hgh⟩ : ∃ gh, ghostN L = gh := ⟨_, rfl⟩
      have HV : Hid ((L.length : Int) - (gh : Nat) = (liveN L : Nat) ∧ ghostN L = gh) := ⟨by omega, hgh⟩
      have hgl : gh ≤ L.length := by omega
      rw [hgh]
      clear hgh hlg
      go_wp2_with fail
      refine bodyPost_ret (v := .tuple #[.int .i64 ((L.length : Int) - (gh : Nat)), .int .i64 (gh : Nat)]) (by simp [results, Try.results12, go_sem]) rfl ?_
      exact ⟨by rw [HV.out.1, HV.out.2], Below.refl _ _⟩
end Go.Proofs.Ytfobcnmhghfanaa
