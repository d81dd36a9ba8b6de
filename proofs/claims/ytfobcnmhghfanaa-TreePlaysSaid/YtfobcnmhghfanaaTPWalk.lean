/- The walk of the law TreePlays. -/
import Derived.Test.YtfobcnmhghfanaaB9RS
namespace Go.Proofs.Ytfobcnmhghfanaa
open Go.RowKit Go.Shelf
set_option linter.unusedVariables false
set_option linter.unusedSimpArgs false

theorem step_any {w0 w : World} {a b m : Nat} (h : PR w0 w a b m) (hm : m ≤ 79000) (kd nn : Int) (hnn : -9223372036854775808 ≤ nn ∧ nn ≤ 9223372036854775807) (key : ByteArray) (is nr : Bool) :
    Calls Try.prog 10 #[pt a, pt b, .agg #[.int .i64 kd, .int .i64 nn, .string key, .bool is, .bool nr]] w fun e w' => e = .returned (.bool true) ∧ PR w0 w' a b (m + 60) := by
  cases nr
  · exact step_far h hm kd nn hnn key is
  · exact step_near h hm kd nn hnn key is
/-- Both, of this line. -/
def PL (w0 w : World) (a b : Nat) (L : List E) : Prop := ∃ ro lv, TB w0 w ro (pt a) L ∧ RT w0.heap.size w b lv L ∧ ro b = none ∧ (∀ k, lv.ownBlock = some k → ro k = none)
theorem PL.below {w0 w w' : World} {a b : Nat} {L : List E} (h : PL w0 w a b L) (hb : Below w.heap.size w w') : PL w0 w' a b L := by
  obtain ⟨ro, lv, h1, h2, h3, h4⟩ := h
  exact ⟨ro, lv, h1.below hb, h2.below hb, h3, h4⟩
theorem PL.pr {w0 w : World} {a b m : Nat} {L : List E} (h : PL w0 w a b L) (hm : L.length ≤ m) : PR w0 w a b m := by
  obtain ⟨ro, lv, h1, h2, h3, h4⟩ := h
  exact ⟨ro, lv, L, h1, h2, h3, h4, hm⟩
theorem PR.pl {w0 w : World} {a b m : Nat} (h : PR w0 w a b m) : ∃ L, PL w0 w a b L ∧ L.length ≤ m := by
  obtain ⟨ro, lv, L, h1, h2, h3, h4, h5⟩ := h
  exact ⟨L, ⟨ro, lv, h1, h2, h3, h4⟩, h5⟩
theorem PL.tcount {w0 w : World} {a b : Nat} {L : List E} (h : PL w0 w a b L) : Calls Try.prog 11 #[pt a] w fun e w' => e = .returned (.tuple #[.int .i64 (liveN L : Nat), .int .i64 (ghostN L : Nat)]) ∧ PL w0 w' a b L := by
  have H := h
  obtain ⟨ro, lv, h1, h2, h3, h4⟩ := h
  refine (tcount_any h1.tr).mono ?_
  rintro e w' ⟨he, hb⟩
  exact ⟨he, H.below hb⟩
theorem PL.wcount {w0 w : World} {a b : Nat} {L : List E} (h : PL w0 w a b L) (hl : L.length ≤ 900000) : Calls Try.prog 12 #[pt b] w fun e w' => e = .returned (.tuple #[.int .i64 (liveN L : Nat), .int .i64 (ghostN L : Nat)]) ∧ PL w0 w' a b L := by
  have H := h
  obtain ⟨ro, lv, h1, h2, h3, h4⟩ := h
  refine (rcount_any h2 hl).mono ?_
  rintro e w' ⟨he, hb⟩
  exact ⟨he, H.below hb⟩
theorem PL.well {w0 w : World} {a b : Nat} {L : List E} (h : PL w0 w a b L) (hl : L.length ≤ 900000) : Calls Try.prog 13 #[pt a] w fun e w' => e = .returned (.bool true) ∧ PL w0 w' a b L := by
  have H := h
  obtain ⟨ro, lv, h1, h2, h3, h4⟩ := h
  refine (twell_any h1.tr hl).mono ?_
  rintro e w' ⟨he, hb⟩
  exact ⟨he, H.below hb⟩
theorem pr_start {w w1 : World} {ra : Ro} {a : Nat} (h : TB w w1 ra (pt a) []) : PR w (w1.alloc (.cells #[.slice none 0 0] 28)) a w1.heap.size 0 := by
  refine ⟨ra, .slice none 0 0, [], h.below ((Below.refl _ _).alloc (Nat.le_refl _) _), ⟨heap_alloc_new w1 _, Row.nil_ _ _ _ _ _, (fun e => by cases e), h.bl.size⟩, Classical.byContradiction fun hn => ?_, (fun k hk => by cases hk), Nat.le_refl _⟩
  have := (h.tr.lo _ hn).2; omega
set_option maxRecDepth 100000 in
set_option maxHeartbeats 4000000 in
theorem plays_law (v : Value) (rs : List Op9) (w : World) (hv : Ops9 w v rs) (hok : ∀ x ∈ rs, Op9Ok x) :
    Calls Try.prog 3 #[v] w fun e w' => e = .returned (.bool true) ∧ Below w.heap.size w w' := by
  obtain ⟨ao, cap, rfl, hcap, hcl⟩ := hv
  have HCL : Hid (rs = [] ∨ ∃ g o, ao = some ⟨g, o, none⟩ ∧ ∀ k (h : k < rs.length), w.rangeAt g (o + k * 5) (cells9 rs[k])) := hcl
  have HOK : Hid (∀ x ∈ rs, Op9Ok x) := hok
  clear hcl hok
  have hn1 := tb_new w w (Below.refl _ _)
  go_enter Try.func3, Try.ntmps3
  go_wp2_with fail
  refine hn1.mono ?_
  clear hn1
  rintro e w1 ⟨ra, a, rfl, ta, _, _⟩
  have HS : Hid (PR w (w1.alloc (.cells #[.slice none 0 0] 28)) a w1.heap.size 0) := pr_start ta
  have hal := alive_any (w1.alloc (.cells #[.slice none 0 0] 28))
  clear ta
  go_wp2_with fail
  refine hal.mono ?_
  clear hal
  rintro e w3 ⟨rfl, hb3⟩
  have H0 : Hid (PR w w3 a w1.heap.size 0) := HS.out.below hb3
  clear HS hb3
  generalize w1.heap.size = b at *
  go_wp2_with fail
  go_loopw [5] (fun i wr => ∃ k : Nat, i = .int .i64 k ∧ k ≤ 120 ∧ k ≤ rs.length ∧ Hid (PR w wr a b (60 * k))) (fun i _ => 120 - (intOf i).toNat)
  case atStart => exact ⟨0, rfl, by omega, by omega, H0⟩
  case round =>
    obtain ⟨k, rfl, hk2, hkl, H⟩ := hrel
    clear H0
    by_cases h1 : k < rs.length
    · by_cases h2 : k < 120
      · rcases HCL.out with h0 | ⟨g, o, rfl, hcl⟩
        · rw [h0] at h1; simp at h1
        have r0 := hcl k h1
        have ho := HOK.out _ (List.getElem_mem h1)
        generalize rs[k] = x at *
        have hrb : wr.rangeAt g (o + k * 5) (cells9 x) := fun j u hu => by
          have := r0 j u hu
          exact (H.out.bl.cell (World.block_lt_of_cell? w _ this)).trans this
        obtain ⟨kd, nn, key, is, nr⟩ := x
        have hst := step_any H.out (by omega) kd nn ho.2 key is nr
        simp only [cells9] at hrb
        clear hcl r0 ho H
        go_wp2_with (guard_target = wpList _ _ _ (Oper.mk _ (Op.load 32 _) _ _ _ _ :: _) _ _; refine wpList_load_mid rfl 32 _ rfl g (o + k * 5) (by rfl) [.int .i64 kd, .int .i64 nn, .string key, .bool is, .bool nr] _ hrb Try.underlying32 rfl infoOp9 ?_)
        refine hst.mono ?_
        clear hst hrb
        rintro e wa ⟨rfl, hpr⟩
        obtain ⟨L, hpl, hl⟩ := hpr.pl
        have n1 := hpl.tcount
        clear hpr hpl
        simp only
        go_wp2_with fail
        refine n1.mono ?_
        clear n1
        rintro e wb ⟨rfl, hpl⟩
        have n1 := hpl.wcount (by omega)
        clear hpl
        simp only
        go_wp2_with fail
        refine n1.mono ?_
        clear n1
        rintro e wd ⟨rfl, hpl⟩
        have n1 := hpl.well (by omega)
        clear hpl
        simp only
        go_wp2_with fail
        refine n1.mono ?_
        clear n1
        rintro e we ⟨rfl, hpl⟩
        have HR : Hid (PR w we a b (60 * (k + 1))) := hpl.pr (by omega)
        clear hpl
        simp only
        go_wp2_with fail
        go_roundw
        case rel => exact ⟨k + 1, by go_num, by omega, by omega, HR⟩
        case measure => simp [intOf]; omega
      · have HB : Hid _ := H.out.bl
        clear H
        go_wp2_with fail
        go_ret
        exact ⟨rfl, HB.out⟩
    · have HB : Hid _ := H.out.bl
      clear H
      go_wp2_with fail
      go_ret
      exact ⟨rfl, HB.out⟩
end Go.Proofs.Ytfobcnmhghfanaa
