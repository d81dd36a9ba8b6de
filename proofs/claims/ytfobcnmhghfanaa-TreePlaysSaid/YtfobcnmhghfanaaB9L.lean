/- A child is mended ahead of going down: fillShort. -/
import Derived.Test.YtfobcnmhghfanaaB9K
namespace Go.Proofs.Ytfobcnmhghfanaa
open Go.RowKit Go.Shelf
set_option linter.unusedVariables false
set_option linter.unusedSimpArgs false

theorem part_two {bs : List Br} {i : Nat} (hi : i + 1 < bs.length) : bs = bs.take i ++ ((bs[i]'(by omega)).1, (bs[i]'(by omega)).2) :: (bs[i + 1].1, bs[i + 1].2) :: bs.drop (i + 2) := by
  conv => lhs; rw [← List.take_append_drop i bs, List.drop_eq_getElem_cons (by omega : i < bs.length), List.drop_eq_getElem_cons hi]
/-- What is known behind the joining. -/
structure AfterJ (base : Nat) (w : World) (ro : Ro) (nd : Nat → Nd) (r H : Nat) (lv : Nat → List Br) (key : ByteArray) (j : Nat) (p : Br) (i left both c : Nat) (w1 : World) : Prop where
  cell : ∃ g n cap, w1.cell? ⟨p.2, 1, none⟩ = some (.slice (some ⟨g, 0, none⟩) n cap) ∧ left < n ∧ w1.cell? ⟨g, left * 2 + 1, none⟩ = some (pt c)
  size : Calls Try.prog 33 #[pt c] w1 fun e w' => e = .returned (.int .i64 (both : Nat)) ∧ ∃ q, w' = w1.drewN q
  few : both ≤ 8 → ∀ q, RdOut base w ro nd r H lv key j p i (fun s => 4 < s) (fun _ => True) (.returned (.bool true)) (w1.drewN q)
  many : 8 < both → ∀ q keep : Nat, (i = left → keep = both - both / 2) → (i = left + 1 → keep = both / 2) → Calls Try.prog 45 #[pt p.2, .int .i64 left, .int .i64 keep] (w1.drewN q) fun e w' => e = .returned (.tuple #[]) ∧ RdOut base w ro nd r H lv key j p i (fun s => 4 < s) (fun _ => True) (.returned (.bool true)) w'
theorem fill_after {base : Nat} {w w1 : World} {ro ro1 : Ro} {nd nd1 : Nat → Nd} {r H : Nat} {lv : Nat → List Br} {dep : Nat → Nat} {key : ByteArray} (ts : TS base w ro nd r H lv dep) {j : Nat} (hj : j < H) {A B : List Br} {p : Br} (hp : Path lv key j A p B) {i left : Nat} (hb : BrAt (nd p.2).bs key i) {l rt : List Br} {lo lo2 : ByteArray} {c d : Nat} (h : Fs nd H lv key j p i left l lo c lo2 d rt) (mt : MTo base w ro nd w1 ro1 nd1) (hs : Jn nd p.2 l lo c lo2 d rt nd1) (hbase : base ≤ w.heap.size) :
    AfterJ base w ro nd r H lv key j p i left ((nd c).sz + (nd d).sz) c w1 := by
  obtain ⟨lv1, tm, k1, k2, k3, k4, k5⟩ := ts.toTM.join hj hp.at_ h.hq mt hs
  have hcs := h.cs
  have hds := h.ds
  have hpm : p ∈ lv j := by rw [hp.at_]; simp
  have hpsz := ts.toSZ.all ts.sh (by omega) hpm
  have hkk : lv (j + 1) = (next nd A ++ l) ++ (lo, c) :: (lo2, d) :: (rt ++ next nd B) := by have := ts.sh.kids hj hp.at_ h.hq; simpa using this
  have hcm : (lo, c) ∈ lv (j + 1) := by rw [hkk]; simp
  have hc1 : ro1 c = some (c, 0) := mt.node c (ts.inn (j + 1) hj (lo, c) hcm)
  have hp1 : ro1 p.2 = some (p.2, 0) := mt.node p.2 (ts.inn j (by omega) p hpm)
  have hll := h.ll
  have hat := h.at_
  refine ⟨?_, ?_, fun h8 q => ?_, fun h8 q keep e1 e2 => ?_⟩
  · have hrow := mt.mem.rowB p.2 hp1
    have hlen : left < (nd1 p.2).bs.length := by rw [hs.nbs]; simp; omega
    obtain ⟨g, cap, hv, _, _⟩ := hrow.at_ (by omega)
    have hN := (mt.mem.at_ hp1).c1
    rw [hv] at hrow hN
    refine ⟨g, _, cap, hN, hlen, ?_⟩
    have := mem_cellB' hrow left hlen
    rw [this]
    have e : (nd1 p.2).bs[left] = (lo, c) := by
      have := mid_get hs.nbs
      rw [hll, List.getElem?_eq_getElem hlen] at this
      simpa using this
    rw [e]
  · have := msize_any mt.mem hc1 (by rw [k3]; omega)
    rwa [k3] at this
  · exact fill_join ts hj hp hb h mt hs h8 ⟨rfl, rfl, rfl, Nat.le_refl _, fun _ _ => rfl⟩
  · have bq : Below w1.heap.size w1 (w1.drewN q) := ⟨rfl, rfl, rfl, Nat.le_refl _, fun _ _ => rfl⟩
    have hsp := split_any (tm.below bq) hj (by rw [k1 j (Nat.le_refl _)]; exact hp.at_) hs.nbs (by omega) (by rw [k3]; omega) keep (by omega) (by rw [k3]; omega) (Nat.le_trans hbase mt.fr.size)
    rw [hll] at hsp
    refine hsp.mono ?_
    intro e w' hsp
    exact fill_split ts hj hp hb h mt hs h8 bq e1 e2 hsp
set_option maxHeartbeats 1000000 in
theorem fs_few0 {base : Nat} {w : World} {ro : Ro} {nd : Nat → Nd} {r H : Nat} {lv : Nat → List Br} {key : ByteArray} {j : Nat} {p : Br} {m both c : Nat} {ci g nb cap : Nat} (c1 : w.cell? ⟨p.2, 1, none⟩ = some (.slice (some ⟨g, 0, none⟩) nb cap)) (hi : 0 < nb) (hnb : nb ≤ 100) (q1 : w.cell? ⟨g, (0) * 2 + 1, none⟩ = some (pt ci)) (hsz : Calls Try.prog 33 #[pt ci] w fun e w' => e = .returned (.int .i64 4) ∧ ∃ q, w' = w.drewN q)
    (HJ : Hid (∀ q, Calls Try.prog 50 #[pt p.2, .int .i64 (0 : Nat)] (w.drewN q) fun e w1 => e = .returned (.tuple #[]) ∧ AfterJ base w ro nd r H lv key j p (0) (0) both c w1)) (hbt : both ≤ 8) :
    Calls Try.prog 41 #[pt p.2, .int .i64 ((0 : Nat) : Int)] w fun e w' => RdOut base w ro nd r H lv key j p (0) (fun s => 4 < s) (fun _ => True) e w' := by
  have hz : (0 : Int) < (nb : Int) := by omega
  have hb8 : (both : Int) ≤ 8 := by omega
  go_enter Try.func41, Try.ntmps41
  go_wp2_with (first
    | (go_at_call 33; refine hsz.mono ?_; clear hsz; rintro e wx ⟨rfl, nq, rfl⟩)
    | (go_at_call 50; refine (HJ.out _).mono ?_; clear HJ; rintro e w1 ⟨rfl, hA⟩; obtain ⟨⟨g1, n1, cp1, x1, x2, x3⟩, y1, y2, y3⟩ := hA; have Y2 : Hid _ := y2; have Y3 : Hid _ := y3; clear y2 y3; have x4 : ((0 : Nat) : Int) < (n1 : Int) := (by omega))
    | (go_at_call 33; refine y1.mono ?_; clear y1; rintro e wx ⟨rfl, nq2, rfl⟩))
  go_ret
  exact Y2.out (by omega) _
set_option maxHeartbeats 1000000 in
theorem fs_fewm {base : Nat} {w : World} {ro : Ro} {nd : Nat → Nd} {r H : Nat} {lv : Nat → List Br} {key : ByteArray} {j : Nat} {p : Br} {m both c : Nat} {ci g nb cap : Nat} (c1 : w.cell? ⟨p.2, 1, none⟩ = some (.slice (some ⟨g, 0, none⟩) nb cap)) (hi : m + 1 < nb) (hnb : nb ≤ 100) (q1 : w.cell? ⟨g, (m + 1) * 2 + 1, none⟩ = some (pt ci)) (hsz : Calls Try.prog 33 #[pt ci] w fun e w' => e = .returned (.int .i64 4) ∧ ∃ q, w' = w.drewN q)
    (HJ : Hid (∀ q, Calls Try.prog 50 #[pt p.2, .int .i64 (m : Nat)] (w.drewN q) fun e w1 => e = .returned (.tuple #[]) ∧ AfterJ base w ro nd r H lv key j p (m + 1) (m) both c w1)) (hbt : both ≤ 8) :
    Calls Try.prog 41 #[pt p.2, .int .i64 ((m + 1 : Nat) : Int)] w fun e w' => RdOut base w ro nd r H lv key j p (m + 1) (fun s => 4 < s) (fun _ => True) e w' := by
  have hz : (m : Int) + 1 < (nb : Int) := by omega
  have hw : IntKind.i64.wrap ((m : Int) + 1) = (m : Int) + 1 := by rw [IntKind.wrap_i64]; omega
  have hb8 : (both : Int) ≤ 8 := by omega
  go_enter Try.func41, Try.ntmps41
  go_wp2_with (first
    | (go_at_call 33; refine hsz.mono ?_; clear hsz; rintro e wx ⟨rfl, nq, rfl⟩)
    | (go_at_call 50; refine (HJ.out _).mono ?_; clear HJ; rintro e w1 ⟨rfl, hA⟩; obtain ⟨⟨g1, n1, cp1, x1, x2, x3⟩, y1, y2, y3⟩ := hA; have Y2 : Hid _ := y2; have Y3 : Hid _ := y3; clear y2 y3; have x4 : ((m : Nat) : Int) < (n1 : Int) := (by omega))
    | (go_at_call 33; refine y1.mono ?_; clear y1; rintro e wx ⟨rfl, nq2, rfl⟩))
  go_ret
  exact Y2.out (by omega) _
set_option maxHeartbeats 1000000 in
theorem fs_90 {base : Nat} {w : World} {ro : Ro} {nd : Nat → Nd} {r H : Nat} {lv : Nat → List Br} {key : ByteArray} {j : Nat} {p : Br} {m both c : Nat} {ci g nb cap : Nat} (c1 : w.cell? ⟨p.2, 1, none⟩ = some (.slice (some ⟨g, 0, none⟩) nb cap)) (hi : 0 < nb) (hnb : nb ≤ 100) (q1 : w.cell? ⟨g, (0) * 2 + 1, none⟩ = some (pt ci)) (hsz : Calls Try.prog 33 #[pt ci] w fun e w' => e = .returned (.int .i64 4) ∧ ∃ q, w' = w.drewN q)
    (HJ : Hid (∀ q, Calls Try.prog 50 #[pt p.2, .int .i64 (0 : Nat)] (w.drewN q) fun e w1 => e = .returned (.tuple #[]) ∧ AfterJ base w ro nd r H lv key j p (0) (0) 9 c w1)) :
    Calls Try.prog 41 #[pt p.2, .int .i64 ((0 : Nat) : Int)] w fun e w' => RdOut base w ro nd r H lv key j p (0) (fun s => 4 < s) (fun _ => True) e w' := by
  have hz : (0 : Int) < (nb : Int) := by omega
  go_enter Try.func41, Try.ntmps41
  go_wp2_with (first
    | (go_at_call 33; refine hsz.mono ?_; clear hsz; rintro e wx ⟨rfl, nq, rfl⟩)
    | (go_at_call 50; refine (HJ.out _).mono ?_; clear HJ; rintro e w1 ⟨rfl, hA⟩; obtain ⟨⟨g1, n1, cp1, x1, x2, x3⟩, y1, y2, y3⟩ := hA; have Y2 : Hid _ := y2; have Y3 : Hid _ := y3; clear y2 y3; have x4 : ((0 : Nat) : Int) < (n1 : Int) := (by omega))
    | (go_at_call 33; refine y1.mono ?_; clear y1; rintro e wx ⟨rfl, nq2, rfl⟩)
    | (go_at_call 45; refine (Y3.out (by omega) _ 5 (fun _ => by omega) (fun h => by omega)).mono ?_; rintro e w' ⟨rfl, hO⟩))
  go_ret
  exact hO
set_option maxHeartbeats 1000000 in
theorem fs_9m {base : Nat} {w : World} {ro : Ro} {nd : Nat → Nd} {r H : Nat} {lv : Nat → List Br} {key : ByteArray} {j : Nat} {p : Br} {m both c : Nat} {ci g nb cap : Nat} (c1 : w.cell? ⟨p.2, 1, none⟩ = some (.slice (some ⟨g, 0, none⟩) nb cap)) (hi : m + 1 < nb) (hnb : nb ≤ 100) (q1 : w.cell? ⟨g, (m + 1) * 2 + 1, none⟩ = some (pt ci)) (hsz : Calls Try.prog 33 #[pt ci] w fun e w' => e = .returned (.int .i64 4) ∧ ∃ q, w' = w.drewN q)
    (HJ : Hid (∀ q, Calls Try.prog 50 #[pt p.2, .int .i64 (m : Nat)] (w.drewN q) fun e w1 => e = .returned (.tuple #[]) ∧ AfterJ base w ro nd r H lv key j p (m + 1) (m) 9 c w1)) :
    Calls Try.prog 41 #[pt p.2, .int .i64 ((m + 1 : Nat) : Int)] w fun e w' => RdOut base w ro nd r H lv key j p (m + 1) (fun s => 4 < s) (fun _ => True) e w' := by
  have hz : (m : Int) + 1 < (nb : Int) := by omega
  have hw : IntKind.i64.wrap ((m : Int) + 1) = (m : Int) + 1 := by rw [IntKind.wrap_i64]; omega
  go_enter Try.func41, Try.ntmps41
  go_wp2_with (first
    | (go_at_call 33; refine hsz.mono ?_; clear hsz; rintro e wx ⟨rfl, nq, rfl⟩)
    | (go_at_call 50; refine (HJ.out _).mono ?_; clear HJ; rintro e w1 ⟨rfl, hA⟩; obtain ⟨⟨g1, n1, cp1, x1, x2, x3⟩, y1, y2, y3⟩ := hA; have Y2 : Hid _ := y2; have Y3 : Hid _ := y3; clear y2 y3; have x4 : ((m : Nat) : Int) < (n1 : Int) := (by omega))
    | (go_at_call 33; refine y1.mono ?_; clear y1; rintro e wx ⟨rfl, nq2, rfl⟩)
    | (go_at_call 45; refine (Y3.out (by omega) _ 4 (fun _ => by omega) (fun h => by omega)).mono ?_; rintro e w' ⟨rfl, hO⟩))
  go_ret
  exact hO
set_option maxHeartbeats 1000000 in
theorem fs_100 {base : Nat} {w : World} {ro : Ro} {nd : Nat → Nd} {r H : Nat} {lv : Nat → List Br} {key : ByteArray} {j : Nat} {p : Br} {m both c : Nat} {ci g nb cap : Nat} (c1 : w.cell? ⟨p.2, 1, none⟩ = some (.slice (some ⟨g, 0, none⟩) nb cap)) (hi : 0 < nb) (hnb : nb ≤ 100) (q1 : w.cell? ⟨g, (0) * 2 + 1, none⟩ = some (pt ci)) (hsz : Calls Try.prog 33 #[pt ci] w fun e w' => e = .returned (.int .i64 4) ∧ ∃ q, w' = w.drewN q)
    (HJ : Hid (∀ q, Calls Try.prog 50 #[pt p.2, .int .i64 (0 : Nat)] (w.drewN q) fun e w1 => e = .returned (.tuple #[]) ∧ AfterJ base w ro nd r H lv key j p (0) (0) 10 c w1)) :
    Calls Try.prog 41 #[pt p.2, .int .i64 ((0 : Nat) : Int)] w fun e w' => RdOut base w ro nd r H lv key j p (0) (fun s => 4 < s) (fun _ => True) e w' := by
  have hz : (0 : Int) < (nb : Int) := by omega
  go_enter Try.func41, Try.ntmps41
  go_wp2_with (first
    | (go_at_call 33; refine hsz.mono ?_; clear hsz; rintro e wx ⟨rfl, nq, rfl⟩)
    | (go_at_call 50; refine (HJ.out _).mono ?_; clear HJ; rintro e w1 ⟨rfl, hA⟩; obtain ⟨⟨g1, n1, cp1, x1, x2, x3⟩, y1, y2, y3⟩ := hA; have Y2 : Hid _ := y2; have Y3 : Hid _ := y3; clear y2 y3; have x4 : ((0 : Nat) : Int) < (n1 : Int) := (by omega))
    | (go_at_call 33; refine y1.mono ?_; clear y1; rintro e wx ⟨rfl, nq2, rfl⟩)
    | (go_at_call 45; refine (Y3.out (by omega) _ 5 (fun _ => by omega) (fun h => by omega)).mono ?_; rintro e w' ⟨rfl, hO⟩))
  go_ret
  exact hO
set_option maxHeartbeats 1000000 in
theorem fs_10m {base : Nat} {w : World} {ro : Ro} {nd : Nat → Nd} {r H : Nat} {lv : Nat → List Br} {key : ByteArray} {j : Nat} {p : Br} {m both c : Nat} {ci g nb cap : Nat} (c1 : w.cell? ⟨p.2, 1, none⟩ = some (.slice (some ⟨g, 0, none⟩) nb cap)) (hi : m + 1 < nb) (hnb : nb ≤ 100) (q1 : w.cell? ⟨g, (m + 1) * 2 + 1, none⟩ = some (pt ci)) (hsz : Calls Try.prog 33 #[pt ci] w fun e w' => e = .returned (.int .i64 4) ∧ ∃ q, w' = w.drewN q)
    (HJ : Hid (∀ q, Calls Try.prog 50 #[pt p.2, .int .i64 (m : Nat)] (w.drewN q) fun e w1 => e = .returned (.tuple #[]) ∧ AfterJ base w ro nd r H lv key j p (m + 1) (m) 10 c w1)) :
    Calls Try.prog 41 #[pt p.2, .int .i64 ((m + 1 : Nat) : Int)] w fun e w' => RdOut base w ro nd r H lv key j p (m + 1) (fun s => 4 < s) (fun _ => True) e w' := by
  have hz : (m : Int) + 1 < (nb : Int) := by omega
  have hw : IntKind.i64.wrap ((m : Int) + 1) = (m : Int) + 1 := by rw [IntKind.wrap_i64]; omega
  go_enter Try.func41, Try.ntmps41
  go_wp2_with (first
    | (go_at_call 33; refine hsz.mono ?_; clear hsz; rintro e wx ⟨rfl, nq, rfl⟩)
    | (go_at_call 50; refine (HJ.out _).mono ?_; clear HJ; rintro e w1 ⟨rfl, hA⟩; obtain ⟨⟨g1, n1, cp1, x1, x2, x3⟩, y1, y2, y3⟩ := hA; have Y2 : Hid _ := y2; have Y3 : Hid _ := y3; clear y2 y3; have x4 : ((m : Nat) : Int) < (n1 : Int) := (by omega))
    | (go_at_call 33; refine y1.mono ?_; clear y1; rintro e wx ⟨rfl, nq2, rfl⟩)
    | (go_at_call 45; refine (Y3.out (by omega) _ 5 (fun _ => by omega) (fun h => by omega)).mono ?_; rintro e w' ⟨rfl, hO⟩))
  go_ret
  exact hO
set_option maxHeartbeats 1000000 in
theorem fs_110 {base : Nat} {w : World} {ro : Ro} {nd : Nat → Nd} {r H : Nat} {lv : Nat → List Br} {key : ByteArray} {j : Nat} {p : Br} {m both c : Nat} {ci g nb cap : Nat} (c1 : w.cell? ⟨p.2, 1, none⟩ = some (.slice (some ⟨g, 0, none⟩) nb cap)) (hi : 0 < nb) (hnb : nb ≤ 100) (q1 : w.cell? ⟨g, (0) * 2 + 1, none⟩ = some (pt ci)) (hsz : Calls Try.prog 33 #[pt ci] w fun e w' => e = .returned (.int .i64 4) ∧ ∃ q, w' = w.drewN q)
    (HJ : Hid (∀ q, Calls Try.prog 50 #[pt p.2, .int .i64 (0 : Nat)] (w.drewN q) fun e w1 => e = .returned (.tuple #[]) ∧ AfterJ base w ro nd r H lv key j p (0) (0) 11 c w1)) :
    Calls Try.prog 41 #[pt p.2, .int .i64 ((0 : Nat) : Int)] w fun e w' => RdOut base w ro nd r H lv key j p (0) (fun s => 4 < s) (fun _ => True) e w' := by
  have hz : (0 : Int) < (nb : Int) := by omega
  go_enter Try.func41, Try.ntmps41
  go_wp2_with (first
    | (go_at_call 33; refine hsz.mono ?_; clear hsz; rintro e wx ⟨rfl, nq, rfl⟩)
    | (go_at_call 50; refine (HJ.out _).mono ?_; clear HJ; rintro e w1 ⟨rfl, hA⟩; obtain ⟨⟨g1, n1, cp1, x1, x2, x3⟩, y1, y2, y3⟩ := hA; have Y2 : Hid _ := y2; have Y3 : Hid _ := y3; clear y2 y3; have x4 : ((0 : Nat) : Int) < (n1 : Int) := (by omega))
    | (go_at_call 33; refine y1.mono ?_; clear y1; rintro e wx ⟨rfl, nq2, rfl⟩)
    | (go_at_call 45; refine (Y3.out (by omega) _ 6 (fun _ => by omega) (fun h => by omega)).mono ?_; rintro e w' ⟨rfl, hO⟩))
  go_ret
  exact hO
set_option maxHeartbeats 1000000 in
theorem fs_11m {base : Nat} {w : World} {ro : Ro} {nd : Nat → Nd} {r H : Nat} {lv : Nat → List Br} {key : ByteArray} {j : Nat} {p : Br} {m both c : Nat} {ci g nb cap : Nat} (c1 : w.cell? ⟨p.2, 1, none⟩ = some (.slice (some ⟨g, 0, none⟩) nb cap)) (hi : m + 1 < nb) (hnb : nb ≤ 100) (q1 : w.cell? ⟨g, (m + 1) * 2 + 1, none⟩ = some (pt ci)) (hsz : Calls Try.prog 33 #[pt ci] w fun e w' => e = .returned (.int .i64 4) ∧ ∃ q, w' = w.drewN q)
    (HJ : Hid (∀ q, Calls Try.prog 50 #[pt p.2, .int .i64 (m : Nat)] (w.drewN q) fun e w1 => e = .returned (.tuple #[]) ∧ AfterJ base w ro nd r H lv key j p (m + 1) (m) 11 c w1)) :
    Calls Try.prog 41 #[pt p.2, .int .i64 ((m + 1 : Nat) : Int)] w fun e w' => RdOut base w ro nd r H lv key j p (m + 1) (fun s => 4 < s) (fun _ => True) e w' := by
  have hz : (m : Int) + 1 < (nb : Int) := by omega
  have hw : IntKind.i64.wrap ((m : Int) + 1) = (m : Int) + 1 := by rw [IntKind.wrap_i64]; omega
  go_enter Try.func41, Try.ntmps41
  go_wp2_with (first
    | (go_at_call 33; refine hsz.mono ?_; clear hsz; rintro e wx ⟨rfl, nq, rfl⟩)
    | (go_at_call 50; refine (HJ.out _).mono ?_; clear HJ; rintro e w1 ⟨rfl, hA⟩; obtain ⟨⟨g1, n1, cp1, x1, x2, x3⟩, y1, y2, y3⟩ := hA; have Y2 : Hid _ := y2; have Y3 : Hid _ := y3; clear y2 y3; have x4 : ((m : Nat) : Int) < (n1 : Int) := (by omega))
    | (go_at_call 33; refine y1.mono ?_; clear y1; rintro e wx ⟨rfl, nq2, rfl⟩)
    | (go_at_call 45; refine (Y3.out (by omega) _ 5 (fun _ => by omega) (fun h => by omega)).mono ?_; rintro e w' ⟨rfl, hO⟩))
  go_ret
  exact hO
set_option maxHeartbeats 1000000 in
theorem fs_120 {base : Nat} {w : World} {ro : Ro} {nd : Nat → Nd} {r H : Nat} {lv : Nat → List Br} {key : ByteArray} {j : Nat} {p : Br} {m both c : Nat} {ci g nb cap : Nat} (c1 : w.cell? ⟨p.2, 1, none⟩ = some (.slice (some ⟨g, 0, none⟩) nb cap)) (hi : 0 < nb) (hnb : nb ≤ 100) (q1 : w.cell? ⟨g, (0) * 2 + 1, none⟩ = some (pt ci)) (hsz : Calls Try.prog 33 #[pt ci] w fun e w' => e = .returned (.int .i64 4) ∧ ∃ q, w' = w.drewN q)
    (HJ : Hid (∀ q, Calls Try.prog 50 #[pt p.2, .int .i64 (0 : Nat)] (w.drewN q) fun e w1 => e = .returned (.tuple #[]) ∧ AfterJ base w ro nd r H lv key j p (0) (0) 12 c w1)) :
    Calls Try.prog 41 #[pt p.2, .int .i64 ((0 : Nat) : Int)] w fun e w' => RdOut base w ro nd r H lv key j p (0) (fun s => 4 < s) (fun _ => True) e w' := by
  have hz : (0 : Int) < (nb : Int) := by omega
  go_enter Try.func41, Try.ntmps41
  go_wp2_with (first
    | (go_at_call 33; refine hsz.mono ?_; clear hsz; rintro e wx ⟨rfl, nq, rfl⟩)
    | (go_at_call 50; refine (HJ.out _).mono ?_; clear HJ; rintro e w1 ⟨rfl, hA⟩; obtain ⟨⟨g1, n1, cp1, x1, x2, x3⟩, y1, y2, y3⟩ := hA; have Y2 : Hid _ := y2; have Y3 : Hid _ := y3; clear y2 y3; have x4 : ((0 : Nat) : Int) < (n1 : Int) := (by omega))
    | (go_at_call 33; refine y1.mono ?_; clear y1; rintro e wx ⟨rfl, nq2, rfl⟩)
    | (go_at_call 45; refine (Y3.out (by omega) _ 6 (fun _ => by omega) (fun h => by omega)).mono ?_; rintro e w' ⟨rfl, hO⟩))
  go_ret
  exact hO
set_option maxHeartbeats 1000000 in
theorem fs_12m {base : Nat} {w : World} {ro : Ro} {nd : Nat → Nd} {r H : Nat} {lv : Nat → List Br} {key : ByteArray} {j : Nat} {p : Br} {m both c : Nat} {ci g nb cap : Nat} (c1 : w.cell? ⟨p.2, 1, none⟩ = some (.slice (some ⟨g, 0, none⟩) nb cap)) (hi : m + 1 < nb) (hnb : nb ≤ 100) (q1 : w.cell? ⟨g, (m + 1) * 2 + 1, none⟩ = some (pt ci)) (hsz : Calls Try.prog 33 #[pt ci] w fun e w' => e = .returned (.int .i64 4) ∧ ∃ q, w' = w.drewN q)
    (HJ : Hid (∀ q, Calls Try.prog 50 #[pt p.2, .int .i64 (m : Nat)] (w.drewN q) fun e w1 => e = .returned (.tuple #[]) ∧ AfterJ base w ro nd r H lv key j p (m + 1) (m) 12 c w1)) :
    Calls Try.prog 41 #[pt p.2, .int .i64 ((m + 1 : Nat) : Int)] w fun e w' => RdOut base w ro nd r H lv key j p (m + 1) (fun s => 4 < s) (fun _ => True) e w' := by
  have hz : (m : Int) + 1 < (nb : Int) := by omega
  have hw : IntKind.i64.wrap ((m : Int) + 1) = (m : Int) + 1 := by rw [IntKind.wrap_i64]; omega
  go_enter Try.func41, Try.ntmps41
  go_wp2_with (first
    | (go_at_call 33; refine hsz.mono ?_; clear hsz; rintro e wx ⟨rfl, nq, rfl⟩)
    | (go_at_call 50; refine (HJ.out _).mono ?_; clear HJ; rintro e w1 ⟨rfl, hA⟩; obtain ⟨⟨g1, n1, cp1, x1, x2, x3⟩, y1, y2, y3⟩ := hA; have Y2 : Hid _ := y2; have Y3 : Hid _ := y3; clear y2 y3; have x4 : ((m : Nat) : Int) < (n1 : Int) := (by omega))
    | (go_at_call 33; refine y1.mono ?_; clear y1; rintro e wx ⟨rfl, nq2, rfl⟩)
    | (go_at_call 45; refine (Y3.out (by omega) _ 6 (fun _ => by omega) (fun h => by omega)).mono ?_; rintro e w' ⟨rfl, hO⟩))
  go_ret
  exact hO
/-- What fillShort does. -/
theorem fill_walk {base : Nat} {w : World} {ro : Ro} {nd : Nat → Nd} {r H : Nat} {lv : Nat → List Br} {key : ByteArray} {j : Nat} {p : Br} {i left both c : Nat} (hal : i = left ∧ left = 0 ∨ i = left + 1) {ci g nb cap : Nat} (c1 : w.cell? ⟨p.2, 1, none⟩ = some (.slice (some ⟨g, 0, none⟩) nb cap)) (hi : i < nb) (hnb : nb ≤ 100) (q1 : w.cell? ⟨g, i * 2 + 1, none⟩ = some (pt ci)) (hsz : Calls Try.prog 33 #[pt ci] w fun e w' => e = .returned (.int .i64 4) ∧ ∃ q, w' = w.drewN q)
    (hjn : ∀ q, Calls Try.prog 50 #[pt p.2, .int .i64 left] (w.drewN q) fun e w1 => e = .returned (.tuple #[]) ∧ AfterJ base w ro nd r H lv key j p i left both c w1) (hbt : both ≤ 12) :
    Calls Try.prog 41 #[pt p.2, .int .i64 i] w fun e w' => RdOut base w ro nd r H lv key j p i (fun s => 4 < s) (fun _ => True) e w' := by
  rcases hal with ⟨rfl, rfl⟩ | rfl
  · rcases Nat.lt_or_ge 8 both with h | h
    · obtain rfl | rfl | rfl | rfl : both = 9 ∨ both = 10 ∨ both = 11 ∨ both = 12 := by omega
      · exact fs_90 (m := 0) (both := 0) c1 hi hnb q1 hsz hjn
      · exact fs_100 (m := 0) (both := 0) c1 hi hnb q1 hsz hjn
      · exact fs_110 (m := 0) (both := 0) c1 hi hnb q1 hsz hjn
      · exact fs_120 (m := 0) (both := 0) c1 hi hnb q1 hsz hjn
    · exact fs_few0 (m := 0) c1 hi hnb q1 hsz hjn h
  · rcases Nat.lt_or_ge 8 both with h | h
    · obtain rfl | rfl | rfl | rfl : both = 9 ∨ both = 10 ∨ both = 11 ∨ both = 12 := by omega
      · exact fs_9m (both := 0) c1 hi hnb q1 hsz hjn
      · exact fs_10m (both := 0) c1 hi hnb q1 hsz hjn
      · exact fs_11m (both := 0) c1 hi hnb q1 hsz hjn
      · exact fs_12m (both := 0) c1 hi hnb q1 hsz hjn
    · exact fs_fewm c1 hi hnb q1 hsz hjn h
theorem fillShort_any (base r : Nat) (key : ByteArray) : Ready base 41 r key (fun s => 4 < s) (fun _ => True) (fun j n => 0 < j ∧ 4 < n.sz ∨ j = 0 ∧ (n.bs = [] ∨ 2 ≤ n.bs.length)) := by
  intro w ro nd H lv dep j A p B i ts hj hpath hbr hgp hb
  have hpm : p ∈ lv j := by rw [hpath.at_]; simp
  have hn := ts.inn j (by omega) p hpm
  have hps := ts.toSZ.all ts.sh (by omega) hpm
  have hi := hbr.lt
  have hgi : (nd p.2).bs[i]? = some (nd p.2).bs[i] := List.getElem?_eq_getElem hi
  have hrow := ts.mem.rowB p.2 hn
  have hN := ts.mem.at_ hn
  have hle := bs_le (nd p.2)
  obtain ⟨g, cap, hvb, hcap, _, _⟩ := hrow.at_ (by omega)
  rw [hvb] at hrow
  have q1 := mem_cellB' hrow i hi
  have c1 := hN.c1
  rw [hvb] at c1
  have hkids : ∀ t (ht : t < (nd p.2).bs.length), (nd p.2).bs[t] ∈ lv (j + 1) := fun t ht => by
    rw [ts.sh.nx j hj]
    exact List.mem_flatMap.2 ⟨p, hpm, List.getElem_mem ht⟩
  have hc := ts.inn (j + 1) hj _ (hkids i hi)
  have hcs := ts.sz (j + 1) (by omega) hj _ (hkids i hi)
  have hsz := msize_any ts.mem hc (by omega)
  by_cases h4 : 4 < (nd (nd p.2).bs[i].2).sz
  · have HO : Hid (∀ q, RdOut base w ro nd r H lv key j p i (fun s => 4 < s) (fun _ => True) (.returned (.bool false)) (w.drewN q)) := fun q => .no rfl ⟨rfl, rfl, rfl, Nat.le_refl _, fun _ _ => rfl⟩ (fun q hq' => by rw [hgi] at hq'; cases hq'; exact h4)
    have hz : (i : Int) < ((nd p.2).bs.length : Int) := by omega
    generalize (nd p.2).bs[i].2 = c at *
    have h4' : (4 : Int) < ((nd c).sz : Int) := by omega
    clear ts hpath hbr hgp hrow hN hvb hcap hgi hkids
    generalize (nd p.2).bs.length = nb at *
    generalize (nd c).sz = sc at *
    go_enter Try.func41, Try.ntmps41
    go_wp2_with (go_at_call 33; refine hsz.mono ?_; clear hsz; rintro e wx ⟨rfl, nq, rfl⟩)
    go_ret
    exact HO.out _
  · have h4e : (nd (nd p.2).bs[i].2).sz = 4 := by omega
    have hgp' : 0 < j ∧ 4 < (nd p.2).sz ∨ j = 0 ∧ 2 ≤ (nd p.2).bs.length := by
      rcases hgp with h | h
      · rcases h with h | ⟨h0, h | h⟩
        · exact Or.inl h
        · rw [h] at hi; simp at hi
        · exact Or.inr ⟨h0, h⟩
      · exact absurd (h _ hgi) (by simpa using h4)
    have hbig : 0 < j → 5 ≤ (nd p.2).sz := fun h0 => by omega
    have hes := (ts.sh.inner j hj p hpm).1
    have hlen : 2 ≤ (nd p.2).bs.length := by
      rcases hgp' with h | h
      · have := h.2; unfold Nd.sz at this; rw [hes, List.length_nil] at this; omega
      · exact h.2
    obtain ⟨left, hleft, hll⟩ : ∃ left, (i = left ∧ left = 0 ∨ i = left + 1) ∧ left + 1 < (nd p.2).bs.length := by
      by_cases e : i = 0
      · exact ⟨0, Or.inl ⟨e, rfl⟩, by omega⟩
      · exact ⟨i - 1, Or.inr (by omega), by omega⟩
    have hq := part_two hll
    have hfs : Fs nd H lv key j p i left ((nd p.2).bs.take left) (nd p.2).bs[left].1 (nd p.2).bs[left].2 (nd p.2).bs[left + 1].1 (nd p.2).bs[left + 1].2 ((nd p.2).bs.drop (left + 2)) := by
      refine ⟨hq, by rw [List.length_take]; omega, ?_, ts.sz (j + 1) (by omega) hj _ (hkids left (by omega)), ts.sz (j + 1) (by omega) hj _ (hkids (left + 1) hll), hbig⟩
      rcases hleft with ⟨e1, e2⟩ | e1
      · subst e1; exact Or.inl ⟨rfl, e2, h4e⟩
      · subst e1; exact Or.inr ⟨rfl, h4e⟩
    rw [h4e] at hsz
    have hcs1 := hfs.cs
    have hds1 := hfs.ds
    have hroc := ts.inn (j + 1) hj _ (hkids left (by omega))
    have hrod := ts.inn (j + 1) hj _ (hkids (left + 1) hll)
    have dp := ts.sh.dp j (by omega) p hpm
    have dc := ts.sh.dp (j + 1) hj _ (hkids left (by omega))
    have dd := ts.sh.dp (j + 1) hj _ (hkids (left + 1) hll)
    have hcd : (nd p.2).bs[left].2 ≠ (nd p.2).bs[left + 1].2 := by
      have hnd := ts.sh.nodup (j + 1) hj
      have hkk := ts.sh.kids hj hpath.at_ hq
      rw [hkk] at hnd
      exact fun e => (mem_pair hnd (Or.inr (by simp : ((nd p.2).bs[left + 1].1, (nd p.2).bs[left + 1].2) ∈ _))) e.symm
    refine fill_walk (left := left) (both := (nd (nd p.2).bs[left].2).sz + (nd (nd p.2).bs[left + 1].2).sz) (c := (nd p.2).bs[left].2) hleft c1 hi (by omega) q1 hsz (fun q => ?_) ?_
    · have bq : Below w.heap.size w (w.drewN q) := ⟨rfl, rfl, rfl, Nat.le_refl _, fun _ _ => rfl⟩
      have hjn := join_any (ts.mem.below bq) hn hroc hrod (fun e => by rw [e] at dp; omega) (fun e => by rw [e] at dp; omega) hcd hq (by omega) (by omega) (by omega) hb
      rw [show ((nd p.2).bs.take left).length = left by rw [List.length_take]; omega] at hjn
      refine hjn.mono ?_
      rintro e w1 ⟨ro1, nd1, he, mt1, hj1⟩
      exact ⟨he, fill_after ts hj hpath hbr hfs ((MTo.of_below ts.mem bq).trans mt1) hj1 hb⟩
    · rcases hfs.at_ with h | h <;> omega
end Go.Proofs.Ytfobcnmhghfanaa
