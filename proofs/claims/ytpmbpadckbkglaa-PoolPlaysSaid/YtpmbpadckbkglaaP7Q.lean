/- The live question of layer 7. -/
import Derived.Test.YtpmbpadckbkglaaP7P
namespace Go.Proofs.Ytpmbpadckbkglaa
open Go.RowKit Go.Maps
set_option linter.unusedVariables false
set_option linter.unusedSimpArgs false

/-- One frame that holds the page 0. -/
structure St (P : PS) (pins : Int) (dirty : Bool) (mark safe : Int) : Prop where
  keys : P.keys = [0]
  size : P.size = 1
  pages : P.pages = 2
  pins : (P.fr 0).pins = pins
  dirty : (P.fr 0).dirty = dirty
  mark : (P.fr 0).mark = mark
  safe : P.safe = safe
theorem St.full {P : PS} {pins : Int} {dirty : Bool} {mark safe : Int} (h : St P pins dirty mark safe) : ¬ ((P.keys.length : Int) < P.size) := by
  rw [h.keys, h.size]; decide
theorem St.mem {P : PS} {pins : Int} {dirty : Bool} {mark safe : Int} (h : St P pins dirty mark safe) {k : Int} (hk : k ∈ P.keys) : k = 0 := by
  rw [h.keys] at hk; simpa using hk
theorem St.may {P : PS} {pins : Int} {dirty : Bool} {mark safe : Int} (h : St P pins dirty mark safe) : mayGo P.safe (P.fr 0) = (decide (pins = 0) && !(dirty && decide (mark > safe))) := by
  unfold mayGo unp beh; rw [h.pins, h.dirty, h.mark, h.safe]
theorem St.unp {P : PS} {pins : Int} {dirty : Bool} {mark safe : Int} (h : St P pins dirty mark safe) : unp (P.fr 0) = decide (pins = 0) := by
  unfold Go.Proofs.Ytpmbpadckbkglaa.unp; rw [h.pins]
/-- The first page comes. -/
theorem St.first {D : DS} {P' : PS} {D' : DS} {bs : List UInt8} (h : PinTo (PS.new 0 2 1) D 0 P' D' bs) : St P' 1 false 0 0 ∧ D' = D := by
  cases h with
  | held hk => cases hk
  | came hk P1 D1 hm =>
    cases hm with
    | free h => exact ⟨⟨rfl, rfl, rfl, by simp [PS.touch, updA], by simp [PS.touch, updA], by simp [PS.touch, updA], rfl⟩, rfl⟩
    | went h k hk => exact absurd hk.mem (by simp [PS.new])
theorem St.no_pin {P : PS} {pins : Int} {dirty : Bool} {mark safe : Int} (h : St P pins dirty mark safe) (hm : (decide (pins = 0) && !(dirty && decide (mark > safe))) = false) {D : DS} {P' : PS} {D' : DS} {bs : List UInt8} (ht : PinTo P D 1 P' D' bs) : False := by
  cases ht with
  | held hk => have := h.mem hk; omega
  | came hk P1 D1 hmd =>
    cases hmd with
    | free h' => exact h.full h'
    | went h' k hk =>
      have e := h.mem hk.mem
      have := hk.may
      rw [e, h.may, hm] at this
      cases this
theorem St.err {P : PS} {pins : Int} {dirty : Bool} {mark safe : Int} (h : St P pins dirty mark safe) {c : Int} (hc : RoomErr P c) : (c = 74 ∧ pins = 0 ∧ (dirty && decide (mark > safe)) = true) ∨ (c = 71 ∧ pins ≠ 0) := by
  have h0 : (0 : Int) ∈ P.keys := by rw [h.keys]; simp
  cases hc with
  | behind _ h1 h2 =>
    obtain ⟨k, hk, hu⟩ := h2
    rw [h.mem hk, h.unp] at hu
    have h1 := h1 0 h0
    rw [h.may] at h1
    have hp : pins = 0 := by simpa using hu
    refine Or.inl ⟨rfl, hp, ?_⟩
    simpa [hp] using h1
  | full _ h1 =>
    have h1 := h1 0 h0
    rw [h.unp] at h1
    exact Or.inr ⟨rfl, by simpa using h1⟩
set_option maxRecDepth 20000 in
set_option maxHeartbeats 1000000 in
theorem alive_any (w : World) : Calls Try.prog 8 #[] w fun e w' => e = .returned (.bool true) ∧ Below w.heap.size w w' := by
  go_enter Try.func8, Try.ntmps8
  go_wp2_with fail
  refine (new_any 32 w (by omega)).mono ?_
  rintro e w1 ⟨dg, rfl, hD1, hb1⟩
  have hs1 := hb1.size
  have HD1 : Hid (DiskAt w.heap.size w1 (fun k => w.heap.size ≤ k ∧ k < w1.heap.size) (.pointer (some ⟨dg, 0, none⟩)) 0 ⟨32, fun _ => zsec, fun _ => zsec, [], 0⟩) := hD1
  clear hD1
  go_wp2_with fail
  refine (pd_new HD1.out 0 2 1 (by omega) (by omega) (by omega) (by show (0 : Int) ≤ 32 - 2 * 16; omega) hb1.size).mono ?_
  rintro e w2 ⟨rfl, hP2, hb2⟩
  have hs2 := hb2.size
  have HB2 : Hid (Below w.heap.size w w2) := hb1.trans (hb2.mono hs1)
  generalize hpv : (Value.pointer (some ⟨w1.heap.size + 1, 0, none⟩)) = pv at *
  subst hpv
  generalize hDD : (⟨32, fun _ => zsec, fun _ => zsec, [], 0⟩ : DS) = D0 at *
  have hw0 : D0.ws.length = 0 := by rw [← hDD]; rfl
  have HP2 := hP2
  have HH2 : Hid (PD w.heap.size w2 (fun i => w1.heap.size ≤ i ∧ i < w2.heap.size) (fun k => w.heap.size ≤ k ∧ k < w1.heap.size) (.pointer (some ⟨w1.heap.size + 1, 0, none⟩)) (.pointer (some ⟨dg, 0, none⟩)) 0 (PS.new 0 2 1) D0) := hP2
  clear hP2 HP2 hb1 hb2 HD1 hDD
  go_wp2_with fail
  refine (pd_pin HH2.out (by omega) (by show (0 : Int) < _; omega) (k := 0) (by show (0 : Int) ≤ 0 ∧ (0 : Int) < 2; omega)).mono ?_
  rintro e w3 hO
  cases hO with
  | err c he hk hc hb =>
    cases hc with
    | behind h1 _ _ => exact absurd (by show ((0 : Nat) : Int) < 1; omega) h1
    | full h1 _ => exact absurd (by show ((0 : Nat) : Int) < 1; omega) h1
  | ok P3 D3 bs ht hk3 v he hv F3 G3 h3 hf3 hF3 hG3 hn3 =>
    subst he
    obtain ⟨hS3, rfl⟩ := St.first ht
    have HB3 : Hid (Below w.heap.size w w3) := HB2.out.trans (hf3.below (by omega) (fun i hi => by rcases hi with hi | hi <;> omega))
    have hlo3 := h3.lo
    have hu3 : P3.uses = 1 := hk3.uses
    have H3 : Hid (PD w.heap.size w3 F3 G3 (.pointer (some ⟨w1.heap.size + 1, 0, none⟩)) (.pointer (some ⟨dg, 0, none⟩)) 0 P3 D3) := h3
    have HS3 : Hid (St P3 1 false 0 0) := hS3
    have hbs := hk3.len
    have HV : Hid (OwnB w2.heap.size w3 v bs) := hv
    obtain ⟨ao, cap, hv', _⟩ := hv.toBytes.form
    subst hv'
    rw [hbs] at HV ⊢
    clear ht hk3 h3 hS3 hF3 hG3 hn3 hf3 hv HH2 HB2
    go_wp2_with fail
    refine (pd_pin H3.out (by omega) (by omega) (k := 1) (by rw [HS3.out.pages]; omega)).mono ?_
    rintro e w4 hO
    cases hO with
    | ok P' D' bs' ht _ _ _ _ _ _ _ _ _ _ _ => exact (HS3.out.no_pin (by decide) ht).elim
    | err c he hk hc hb4 =>
      subst he
      have hc71 : c = 71 := by
        rcases HS3.out.err hc with h | h
        · have := h.2.1; omega
        · exact h.1
      subst hc71
      have H4 : Hid (PD w.heap.size w4 F3 G3 (.pointer (some ⟨w1.heap.size + 1, 0, none⟩)) (.pointer (some ⟨dg, 0, none⟩)) 0 P3 D3) := H3.out.keepB hb4
      have HV4 : Hid (OwnB w2.heap.size w4 (.slice ao 2048 cap) bs) := HV.out.keepB hb4
      have HB4 : Hid (Below w.heap.size w w4) := HB3.out.trans (hb4.mono HB3.out.size)
      have hp1 := HS3.out.pins
      have hk0 : (0 : Int) ∈ P3.keys := by rw [HS3.out.keys]; simp
      have Hbs : Hid (bs.length = 2048) := hbs
      clear hc hb4 H3 HB3 HV hk hlo3 hbs
      go_wp2_with fail
      refine (pd_put H4.out (by omega) (k := 0) (by omega) hk0 (by omega) (.slice ao 2048 cap) bs HV4.out.toBytes Hbs.out 5 (by omega)).mono ?_
      rintro e w5 ⟨rfl, F5, G5, h5, hf5, hF5, hG5⟩
      have hS5 : St (P3.touch 0 { P3.fr 0 with bytes := bs, dirty := true, mark := mx (P3.fr 0).mark 5 }) 1 true 5 0 := ⟨HS3.out.keys, HS3.out.size, HS3.out.pages, by simp [PS.touch, updA, HS3.out.pins], by simp [PS.touch, updA], by simp [PS.touch, updA, HS3.out.mark, mx], HS3.out.safe⟩
      have hu5 : (P3.touch 0 { P3.fr 0 with bytes := bs, dirty := true, mark := mx (P3.fr 0).mark 5 }).uses = 2 := by show P3.uses + 1 = 2; omega
      have hk5 : (0 : Int) ∈ (P3.touch 0 { P3.fr 0 with bytes := bs, dirty := true, mark := mx (P3.fr 0).mark 5 }).keys := hk0
      have HB5 : Hid (Below w.heap.size w w5) := HB4.out.trans (hf5.below HB4.out.size (fun i hi => (H4.out.lo i hi).1))
      generalize hP5 : P3.touch 0 { P3.fr 0 with bytes := bs, dirty := true, mark := mx (P3.fr 0).mark 5 } = P5 at *
      have H5 : Hid (PD w.heap.size w5 F5 G5 (.pointer (some ⟨w1.heap.size + 1, 0, none⟩)) (.pointer (some ⟨dg, 0, none⟩)) 0 P5 D3) := h5
      have HS5 : Hid (St P5 1 true 5 0) := hS5
      have hp5 := hS5.pins
      clear h5 hS5 hf5 hF5 hG5 H4 HS3 HB4 HV4 hP5 hp1 hk0 hu3
      go_wp2_with fail
      refine (pd_unpin H5.out (by omega) (k := 0) (by omega) hk5 (by omega)).mono ?_
      rintro e w6 ⟨rfl, F6, G6, h6, hf6, hF6, hG6⟩
      have hS6 : St (P5.touch 0 { P5.fr 0 with pins := (P5.fr 0).pins - 1 }) 0 true 5 0 := ⟨HS5.out.keys, HS5.out.size, HS5.out.pages, by simp [PS.touch, updA, HS5.out.pins], by simp [PS.touch, updA, HS5.out.dirty], by simp [PS.touch, updA, HS5.out.mark], HS5.out.safe⟩
      have hu6 : (P5.touch 0 { P5.fr 0 with pins := (P5.fr 0).pins - 1 }).uses = 3 := by show P5.uses + 1 = 3; omega
      have HB6 : Hid (Below w.heap.size w w6) := HB5.out.trans (hf6.below HB5.out.size (fun i hi => (H5.out.lo i hi).1))
      generalize hP6 : P5.touch 0 { P5.fr 0 with pins := (P5.fr 0).pins - 1 } = P6 at *
      have H6 : Hid (PD w.heap.size w6 F6 G6 (.pointer (some ⟨w1.heap.size + 1, 0, none⟩)) (.pointer (some ⟨dg, 0, none⟩)) 0 P6 D3) := h6
      have HS6 : Hid (St P6 0 true 5 0) := hS6
      clear h6 hS6 hf6 hF6 hG6 H5 HS5 HB5 hP6 hp5 hk5 hu5
      go_wp2_with fail
      refine (pd_pin H6.out (by omega) (by omega) (k := 1) (by rw [HS6.out.pages]; omega)).mono ?_
      rintro e w7 hO
      cases hO with
      | ok P' D' bs' ht _ _ _ _ _ _ _ _ _ _ _ => exact (HS6.out.no_pin (by decide) ht).elim
      | err c he hk hc hb7 =>
        subst he
        have hc74 : c = 74 := by
          rcases HS6.out.err hc with h | h
          · exact h.1
          · exact absurd rfl h.2
        subst hc74
        have H7 : Hid (PD w.heap.size w7 F6 G6 (.pointer (some ⟨w1.heap.size + 1, 0, none⟩)) (.pointer (some ⟨dg, 0, none⟩)) 0 P6 D3) := H6.out.keepB hb7
        have HB7 : Hid (Below w.heap.size w w7) := HB6.out.trans (hb7.mono HB6.out.size)
        clear hc hb7 H6 HB6 hk
        go_wp2_with fail
        refine (pd_safe H7.out 5 (by omega)).mono ?_
        rintro e w8 ⟨rfl, F8, G8, h8, hf8, hF8, hG8⟩
        have hS8 : St { P6 with safe := mx P6.safe 5 } 0 true 5 5 := ⟨HS6.out.keys, HS6.out.size, HS6.out.pages, HS6.out.pins, HS6.out.dirty, HS6.out.mark, by show mx P6.safe 5 = 5; rw [HS6.out.safe]; rfl⟩
        have HB8 : Hid (Below w.heap.size w w8) := HB7.out.trans (hf8.below HB7.out.size (fun i hi => (H7.out.lo i hi).1))
        have hu8 : ({ P6 with safe := mx P6.safe 5 } : PS).uses = 3 := hu6
        generalize hP8 : ({ P6 with safe := mx P6.safe 5 } : PS) = P8 at *
        have H8 : Hid (PD w.heap.size w8 F8 G8 (.pointer (some ⟨w1.heap.size + 1, 0, none⟩)) (.pointer (some ⟨dg, 0, none⟩)) 0 P8 D3) := h8
        have HS8 : Hid (St P8 0 true 5 5) := hS8
        clear h8 hS8 hf8 hF8 hG8 H7 HS6 HB7 hP8 hu6
        go_wp2_with fail
        refine (pd_pin H8.out (by omega) (by omega) (k := 1) (by rw [HS8.out.pages]; omega)).mono ?_
        rintro e w9 hO
        cases hO with
        | err c he hk hc hb7 =>
          exfalso
          rcases HS8.out.err hc with h | h
          · have := h.2.2; simp at this
          · exact absurd rfl h.2
        | ok P9 D9 bs9 ht9 hk9 v9 he hv9 F9 G9 h9 hf9 hF9 hG9 hn9 =>
          subst he
          have HB9 : Below w.heap.size w w9 := HB8.out.trans (hf9.below HB8.out.size (fun i hi => (H8.out.lo i hi).1))
          clear ht9 hk9 hv9 h9 hf9 hF9 hG9 hn9 H8 HS8 HB8
          go_wp2
          go_ret
          exact ⟨rfl, HB9⟩
end Go.Proofs.Ytpmbpadckbkglaa
