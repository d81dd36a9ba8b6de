/- A row of keys comes, or goes, in both. -/
import Derived.Test.YtfobcnmhghfanaaB9RP
namespace Go.Proofs.Ytfobcnmhghfanaa
open Go.RowKit Go.Shelf
set_option linter.unusedVariables false
set_option linter.unusedSimpArgs false

set_option maxRecDepth 100000 in
set_option maxHeartbeats 4000000 in
theorem many_6 {w0 w : World} {a b m : Nat} (h : PR w0 w a b m) (hm : m ≤ 80000) (nn : Int) (hnn : -9223372036854775808 ≤ nn ∧ nn ≤ 9223372036854775807) (key : ByteArray) (is nr : Bool) :
    Calls Try.prog 26 #[pt a, pt b, .agg #[.int .i64 6, .int .i64 nn, .string key, .bool is, .bool nr]] w fun e w' => e = .returned (.bool true) ∧ PR w0 w' a b (m + 60) := by
  obtain ⟨L, hL, hp⟩ := h.box ⟨6, nn, key, is, nr⟩
  have HP : Hid (MR w0 (w.alloc (.cells #[.int .i64 6, .int .i64 nn, .string key, .bool is, .bool nr] 32)) a b w.heap.size ⟨6, nn, key, is, nr⟩ L L) := hp
  clear hp h
  go_enter Try.func26, Try.ntmps26
  go_wp2_with fail
  generalize hBB : w.heap.size = B at *
  generalize (w.alloc (.cells #[.int .i64 6, .int .i64 nn, .string key, .bool is, .bool nr] 32)) = wq at *
  clear hBB
  go_loopw [7] (fun i wz => ∃ (j : Nat) (L : List E), i = .int .i64 j ∧ j ≤ 60 ∧ L.length ≤ m + j ∧ Hid (MR w0 wz a b B ⟨6, nn, key, is, nr⟩ L L)) (fun i _ => 60 - (intOf i).toNat)
  case atStart => exact ⟨0, L, rfl, by omega, by omega, HP⟩
  case round =>
    clear HP hL L
    obtain ⟨j, L, rfl, hj, hL, H⟩ := hrel
    rename World => wz
    by_cases hj6 : j < 60
    · obtain ⟨c0, c1, _⟩ := H.out.blk
      have hpk : Calls Try.prog 18 #[.int .i64 nn, .int .i64 676] wz fun e w' => e = .returned (.int .i64 (pickN nn 676)) ∧ w' = wz := pick9 nn 676 wz hnn (by omega) (by omega)
      have hpl := pickN_lt nn 676 (by omega)
      generalize pickN nn 676 = p at *
      obtain ⟨r, hr⟩ : ∃ r : Int, ((j : Int) * 7 + (p : Int)) % 676 = r := ⟨_, rfl⟩
      have hr2 : ((j : Int) * 7 + (p : Int)).tmod 676 = r := by rw [← hr]; exact Int.tmod_eq_emod_of_nonneg (by omega)
      have hrow := row_any r (by omega) (by omega) wz
      simp only at c0 c1
      go_wp2_with (go_at_call 18; refine hpk.mono ?_; clear hpk; rintro e wx ⟨rfl, hwx⟩; rw [hwx]; clear hwx wx)
      refine hrow.mono ?_
      clear hrow
      rintro e wy ⟨s, rfl, hby⟩
      have hq := H.out.below hby
      obtain ⟨c0, c1, _⟩ := hq.blk
      simp only at c0 c1
      have hi := hq.tins (by omega) s j
      have hl2 := len_ins L s j
      clear hq hby H
      go_wp2_with fail
      refine hi.mono ?_
      clear hi c0 c1
      rintro e wb ⟨rfl, hb⟩
      have hi := hb.wins (by omega) s j
      clear hb
      simp only
      go_wp2_with fail
      refine hi.mono ?_
      clear hi
      rintro e wd ⟨rfl, hb⟩
      have HR : Hid (MR w0 wd a b B ⟨6, nn, key, is, nr⟩ (insO L s j).2 (insO L s j).2) := hb
      clear hb
      generalize insO L s j = oo at *
      simp only
      go_wp2_with fail
      go_roundw
      case rel => exact ⟨j + 1, oo.2, by go_num, by omega, by omega, HR⟩
      case measure => simp [intOf]; omega
    · have HR : Hid (PR w0 wz a b (m + 60)) := H.out.pr (by omega)
      clear H
      go_wp2_with fail
      go_ret
      exact ⟨rfl, HR.out⟩
set_option maxRecDepth 100000 in
set_option maxHeartbeats 4000000 in
theorem many_7 {w0 w : World} {a b m : Nat} (h : PR w0 w a b m) (hm : m ≤ 80000) (nn : Int) (hnn : -9223372036854775808 ≤ nn ∧ nn ≤ 9223372036854775807) (key : ByteArray) (is nr : Bool) :
    Calls Try.prog 26 #[pt a, pt b, .agg #[.int .i64 7, .int .i64 nn, .string key, .bool is, .bool nr]] w fun e w' => e = .returned (.bool true) ∧ PR w0 w' a b (m + 60) := by
  obtain ⟨L, hL, hp⟩ := h.box ⟨7, nn, key, is, nr⟩
  have HP : Hid (MR w0 (w.alloc (.cells #[.int .i64 7, .int .i64 nn, .string key, .bool is, .bool nr] 32)) a b w.heap.size ⟨7, nn, key, is, nr⟩ L L) := hp
  clear hp h
  go_enter Try.func26, Try.ntmps26
  go_wp2_with fail
  generalize hBB : w.heap.size = B at *
  generalize (w.alloc (.cells #[.int .i64 7, .int .i64 nn, .string key, .bool is, .bool nr] 32)) = wq at *
  clear hBB
  go_loopw [7] (fun i wz => ∃ (j : Nat) (L : List E), i = .int .i64 j ∧ j ≤ 60 ∧ L.length ≤ m + j ∧ Hid (MR w0 wz a b B ⟨7, nn, key, is, nr⟩ L L)) (fun i _ => 60 - (intOf i).toNat)
  case atStart => exact ⟨0, L, rfl, by omega, by omega, HP⟩
  case round =>
    clear HP hL L
    obtain ⟨j, L, rfl, hj, hL, H⟩ := hrel
    rename World => wz
    by_cases hj6 : j < 60
    · obtain ⟨c0, c1, _⟩ := H.out.blk
      have hpk : Calls Try.prog 18 #[.int .i64 nn, .int .i64 676] wz fun e w' => e = .returned (.int .i64 (pickN nn 676)) ∧ w' = wz := pick9 nn 676 wz hnn (by omega) (by omega)
      have hpl := pickN_lt nn 676 (by omega)
      generalize pickN nn 676 = p at *
      obtain ⟨r, hr⟩ : ∃ r : Int, ((j : Int) * 7 + (p : Int)) % 676 = r := ⟨_, rfl⟩
      have hr2 : ((j : Int) * 7 + (p : Int)).tmod 676 = r := by rw [← hr]; exact Int.tmod_eq_emod_of_nonneg (by omega)
      have hrow := row_any r (by omega) (by omega) wz
      simp only at c0 c1
      go_wp2_with (go_at_call 18; refine hpk.mono ?_; clear hpk; rintro e wx ⟨rfl, hwx⟩; rw [hwx]; clear hwx wx)
      refine hrow.mono ?_
      clear hrow
      rintro e wy ⟨s, rfl, hby⟩
      have hq := H.out.below hby
      obtain ⟨c0, c1, _⟩ := hq.blk
      simp only at c0 c1
      have hi := hq.tgho (by omega) s
      have hl2 := len_gho L s
      clear hq hby H
      go_wp2_with fail
      refine hi.mono ?_
      clear hi c0 c1
      rintro e wb ⟨rfl, hb⟩
      have hi := hb.wgho (by omega) s
      clear hb
      simp only
      go_wp2_with fail
      refine hi.mono ?_
      clear hi
      rintro e wd ⟨rfl, hb⟩
      generalize ghostO L s = oo at *
      have hi := hb.tpur (by omega) s
      have hl3 := len_pur oo.2 s
      clear hb
      simp only
      go_wp2_with fail
      refine hi.mono ?_
      clear hi
      rintro e wb ⟨rfl, hb⟩
      have hi := hb.wpur (by omega) s
      clear hb
      simp only
      go_wp2_with fail
      refine hi.mono ?_
      clear hi
      rintro e wd ⟨rfl, hb⟩
      have HR : Hid (MR w0 wd a b B ⟨7, nn, key, is, nr⟩ (purgeO oo.2 s).2 (purgeO oo.2 s).2) := hb
      clear hb
      generalize purgeO oo.2 s = o2 at *
      simp only
      go_wp2_with fail
      go_roundw
      case rel => exact ⟨j + 1, o2.2, by go_num, by omega, by omega, HR⟩
      case measure => simp [intOf]; omega
    · have HR : Hid (PR w0 wz a b (m + 60)) := H.out.pr (by omega)
      clear H
      go_wp2_with fail
      go_ret
      exact ⟨rfl, HR.out⟩
end Go.Proofs.Ytfobcnmhghfanaa
