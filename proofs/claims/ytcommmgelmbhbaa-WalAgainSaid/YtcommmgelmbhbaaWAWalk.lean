/- The walk of the law WalAgain. -/
import Derived.Test.YtcommmgelmbhbaaW6P
import Derived.Deep.DeepCutAuto
import Derived.Deep.CutBlock
namespace Go.Proofs.Ytcommmgelmbhbaa
open Go.RowKit Go.Maps
set_option linter.unusedVariables false
set_option linter.unusedSimpArgs false

/-- What power does, in a box of its own. -/
structure CutBox (w : World) (g : Nat) (c : Int) (v : Value) : Prop where
  c0 : w.cell? ⟨g, 0, none⟩ = some (.int .i64 c)
  c1 : w.cell? ⟨g, 1, none⟩ = some v
theorem CutBox.keep {w w' : World} {g : Nat} {c : Int} {v : Value} (h : CutBox w g c v) (hb : Below w.heap.size w w') : CutBox w' g c v := ⟨cell_keep hb h.c0, cell_keep hb h.c1⟩
theorem keepT {w1 w' : World} {g : Nat} {x0 x1 x2 x3 x4 x5 : Value} (hl : g < w1.heap.size) (b0 : w1.cell? ⟨g, 0, none⟩ = some x0) (b1 : w1.cell? ⟨g, 1, none⟩ = some x1) (b2 : w1.cell? ⟨g, 2, none⟩ = some x2) (b3 : w1.cell? ⟨g, 3, none⟩ = some x3) (b4 : w1.cell? ⟨g, 4, none⟩ = some x4) (b5 : w1.cell? ⟨g, 5, none⟩ = some x5) (h : Below w1.heap.size w1 w') :
    Below w1.heap.size w1 w' ∧ w'.cell? ⟨g, 0, none⟩ = some x0 ∧ w'.cell? ⟨g, 1, none⟩ = some x1 ∧ w'.cell? ⟨g, 2, none⟩ = some x2 ∧ w'.cell? ⟨g, 3, none⟩ = some x3 ∧ w'.cell? ⟨g, 4, none⟩ = some x4 ∧ w'.cell? ⟨g, 5, none⟩ = some x5 :=
  ⟨h, cell_keep h b0, cell_keep h b1, cell_keep h b2, cell_keep h b3, cell_keep h b4, cell_keep h b5⟩
theorem InRecs.wide {B B' : Nat} {w w' : World} {v : Value} {recs : List (List UInt8)} (h : InRecs B w v recs) (hb : Below B w w') (hB : B ≤ B') : InRecs B' w' v recs :=
  ⟨(h.keep hb).r.mono (fun k hk => Nat.lt_of_lt_of_le hk hB), h.l⟩
/-- A log that the law has, and what it may turn. -/
structure DB (w0 w : World) (F G : Nat → Prop) (p pl : Value) (D : DS) (recs : List (List UInt8)) (fl : Nat) : Prop where
  u : Duo w0.heap.size w F G p pl 0 D 0 40 recs fl
  b : Below w0.heap.size w0 w
theorem DB.turn {w0 w w' : World} {F G F' G' : Nat → Prop} {p pl : Value} {D D' : DS} {recs recs' : List (List UInt8)} {fl fl' : Nat} (h : DB w0 w F G p pl D recs fl) (hu : Duo w0.heap.size w' F' G' p pl 0 D' 0 40 recs' fl') (ho : Out w w' (Both F G) (Both F' G')) : DB w0 w' F' G' p pl D' recs' fl' :=
  ⟨hu, h.b.trans (ho.below h.b.size (fun k hk => (h.u.lo k hk).1))⟩
theorem DB.keepB {w0 w w' : World} {F G : Nat → Prop} {p pl : Value} {D : DS} {recs : List (List UInt8)} {fl : Nat} (h : DB w0 w F G p pl D recs fl) (hb : Below w.heap.size w w') : DB w0 w' F G p pl D recs fl :=
  ⟨h.u.keepB hb, h.b.trans (hb.mono h.b.size)⟩
/-- What a cut leaves, wherever power goes. -/
theorem cutAt_left {base B : Nat} {F : Nat → Prop} {p : Value} {n : Nat} {D : DS} {w : World} (h : DiskAt base w F p n D) (q : Nat) (hq : q ≤ D.ws.length) (j : Int) (hj : j = q) (vk : Value) (ks : List Bool) (hk : Bools w vk ks) (hB : B ≤ w.heap.size) :
    Calls Try.prog 27 #[p, .int .i64 j, vk] w fun e w' => ∃ (c : Nat) (F' : Nat → Prop), e = .returned (.pointer (some ⟨c, 0, none⟩)) ∧ DiskAt B w' F' (.pointer (some ⟨c, 0, none⟩)) (n + D.ws.length) (D.left q (D.safeAt q) ks) ∧ (∀ k, F' k → w.heap.size ≤ k) ∧ Below w.heap.size w w' := by
  subst hj
  refine (CutAt_any h _ q (by omega) vk ks hk).mono ?_
  rintro e w' ⟨c, F', he, hD, hb⟩
  exact ⟨c, F', he, hD.base_le hB, fun k hk => (hD.lo k hk).1, hb⟩
set_option maxRecDepth 100000 in
set_option maxHeartbeats 32000000 in
theorem walAgain_law (ia ib ka kb : Option Addr) (ix iy cx cy k1n k1c k2n k2c : Nat) (c1 c2 : Int) (x y : List (List UInt8)) (ks1 ks2 : List Bool) (w : World) (h1 : InRecs w.heap.size w (.slice ia ix cx) x) (h2 : InRecs w.heap.size w (.slice ib iy cy) y) (hk1 : Bools w (.slice ka k1n k1c) ks1) (hk2 : Bools w (.slice kb k2n k2c) ks2) (hat1 : -9223372036854775808 ≤ c1 ∧ c1 ≤ 9223372036854775807) (hat2 : -9223372036854775808 ≤ c2 ∧ c2 ≤ 9223372036854775807) (hxl : x.length ≤ 140737488355328) (hyl : y.length ≤ 140737488355328) :
    Calls Try.prog 5 #[.agg #[.slice ia ix cx, .slice ib iy cy, .int .i64 c1, .slice ka k1n k1c, .int .i64 c2, .slice kb k2n k2c]] w fun e w' => e = .returned (.bool true) ∧ Below w.heap.size w w' := by
  have ha1 : Below w.heap.size w (w.alloc (.cells #[.slice ia ix cx, .slice ib iy cy, .int .i64 c1, .slice ka k1n k1c, .int .i64 c2, .slice kb k2n k2c] 56)) := (Below.refl _ _).alloc (Nat.le_refl _) _
  obtain ⟨b0, b1, b2, b3, b4, b5, bz⟩ := cells6 (heap_alloc_new w (.cells #[.slice ia ix cx, .slice ib iy cy, .int .i64 c1, .slice ka k1n k1c, .int .i64 c2, .slice kb k2n k2c] 56))
  have hs1 : (w.alloc (.cells #[.slice ia ix cx, .slice ib iy cy, .int .i64 c1, .slice ka k1n k1c, .int .i64 c2, .slice kb k2n k2c] 56)).heap.size = w.heap.size + 1 := by simp
  have hix : ix = x.length := by obtain ⟨_, _, hv, _⟩ := h1.at; cases hv; rfl
  have hiy : iy = y.length := by obtain ⟨_, _, hv, _⟩ := h2.at; cases hv; rfl
  subst hix hiy
  have HX0 : Hid (InRecs w.heap.size w (.slice ia x.length cx) x) := h1
  have HY0 : Hid (InRecs w.heap.size w (.slice ib y.length cy) y) := h2
  have HK1 : Hid (Bools w (.slice ka k1n k1c) ks1) := hk1
  have HK2 : Hid (Bools w (.slice kb k2n k2c) ks2) := hk2
  clear h1 h2 hk1 hk2
  go_enter Try.func5, Try.ntmps5
  go_wp2_with fail
  generalize hw1 : (w.alloc (.cells #[.slice ia x.length cx, .slice ib y.length cy, .int .i64 c1, .slice ka k1n k1c, .int .i64 c2, .slice kb k2n k2c] 56)) = w1 at *
  clear hw1
  have hl1 : w.heap.size < w1.heap.size := by omega
  go_cut [3, 4, 5, 6] (fun a b p q wx => a = .slice ia x.length cx ∧ b = .slice ib y.length cy ∧ ∃ g5 g6, p = .pointer (some ⟨g5, 0, none⟩) ∧ q = .pointer (some ⟨g6, 0, none⟩) ∧ CutBox wx g5 c1 (.slice ka k1n k1c) ∧ CutBox wx g6 c2 (.slice kb k2n k2c) ∧ Below w.heap.size w wx)
  case first =>
    go_region_held3 (fun w' => Below w1.heap.size w1 w' ∧ w'.cell? ⟨w.heap.size, 0, none⟩ = some (.slice ia x.length cx) ∧ w'.cell? ⟨w.heap.size, 1, none⟩ = some (.slice ib y.length cy) ∧ w'.cell? ⟨w.heap.size, 2, none⟩ = some (.int .i64 c1) ∧ w'.cell? ⟨w.heap.size, 3, none⟩ = some (.slice ka k1n k1c) ∧ w'.cell? ⟨w.heap.size, 4, none⟩ = some (.int .i64 c2) ∧ w'.cell? ⟨w.heap.size, 5, none⟩ = some (.slice kb k2n k2c)) (first | exact keepT hl1 b0 b1 b2 b3 b4 b5 (by repeat (first | exact Below.refl _ _ | assumption | refine Below.alloc ?_ (by first | (simp; done) | (simp; omega)) _ | refine Below.setCell ?_ (by first | (simp; done) | (simp; omega)) _ | refine Below.drew ?_ | refine below_drewN ?_ _))) (fail)
    all_goals go_wp2_with fail
    all_goals go_meet
    all_goals exact ⟨rfl, rfl, _, _, rfl, rfl, ⟨by go_simp, by go_simp⟩, ⟨by go_simp, by go_simp⟩, ha1.trans (Below.mono (B := w1.heap.size) (by repeat (first | exact Below.refl _ _ | assumption | refine Below.alloc ?_ (by first | (simp; done) | (simp; omega)) _ | refine Below.setCell ?_ (by first | (simp; done) | (simp; omega)) _ | refine Below.drew ?_ | refine below_drewN ?_ _)) (by omega))⟩
  case rest =>
  obtain ⟨rfl, rfl, g5, g6, rfl, rfl, hC5, hC6, hbq⟩ := hcut
  rename World => wq
  have HX : Hid (InRecs wq.heap.size wq (.slice ia x.length cx) x) := HX0.out.wide hbq hbq.size
  have HY : Hid (InRecs wq.heap.size wq (.slice ib y.length cy) y) := HY0.out.wide hbq hbq.size
  have HQ5 : Hid (CutBox wq g5 c1 (.slice ka k1n k1c)) := hC5
  have HQ6 : Hid (CutBox wq g6 c2 (.slice kb k2n k2c)) := hC6
  have HKK1 : Hid (Bools wq (.slice ka k1n k1c) ks1) := HK1.out.keep hbq
  have HKK2 : Hid (Bools wq (.slice kb k2n k2c) ks2) := HK2.out.keep hbq
  clear hC5 hC6 HX0 HY0 HK1 HK2 b0 b1 b2 b3 b4 b5 bz ha1 hs1 hl1
  go_wp2_with fail
  refine (new_any 40 wq (by omega)).mono ?_
  rintro e w2 ⟨gd, rfl, hD2, hb2⟩
  go_wp2_with fail
  refine (duo_format hD2 rfl 0 40 (by omega) (by show (0 : Int) + 40 ≤ 40; omega) (by show 0 + 0 + 40 + 1 < 100000; omega)).mono ?_
  rintro e w3 ⟨gl, F, G3, rfl, hU3, hO3⟩
  have hb3 : Below wq.heap.size wq w3 := hb2.trans (hO3.below hb2.size (fun k hk => hk.1))
  have HR3 : Hid (DB wq w3 F G3 _ _ _ [] 0) := ⟨hU3, hb3⟩
  clear hD2 hb2 hU3 hO3 hb3
  go_wp2_with fail
  refine (alive_any w3).mono ?_
  rintro e w4 ⟨rfl, hb4⟩
  have hdl : ((⟨40, fun _ => zsec, fun _ => zsec, [], 0⟩ : DS).settle (0 : Nat) 40 []).ws.length = 40 := DS.settle_len _ _ _ _ (by simp)
  obtain ⟨D, hD⟩ : ∃ D, (⟨40, fun _ => zsec, fun _ => zsec, [], 0⟩ : DS).settle (0 : Nat) 40 [] = D := ⟨_, rfl⟩
  rw [hD] at hdl
  have HRUNX0 := HR3.out.keepB hb4
  rw [hD] at HRUNX0
  have HRUNX : Hid (DB wq w4 F G3 (.pointer (some ⟨gd, 0, none⟩)) (.pointer (some ⟨gl, 0, none⟩)) D [] 0) := HRUNX0
  clear HRUNX0 HR3 hb4 hD
  go_wp2
  go_loopw [11] (fun i wr => ∃ (k : Nat) (G : Nat → Prop) (recs : List (List UInt8)), k ≤ x.length ∧ i = .int .i64 k ∧ Hid (DB wq wr F G (.pointer (some ⟨gd, 0, none⟩)) (.pointer (some ⟨gl, 0, none⟩)) D recs 0)) (fun i _ => x.length - (intOf i).toNat)
  case atStart => exact ⟨0, G3, [], Nat.zero_le _, rfl, HRUNX⟩
  case round =>
    obtain ⟨k, G, recs, hk, rfl, HR⟩ := hrel
    by_cases hlt : k < x.length
    · obtain ⟨ao1, cap1, hv1, hc1, hat⟩ := (HX.out.keep HR.out.b).at
      cases hv1
      obtain ⟨g, o, a, en, ec, rfl, hgB, hcell, hBy, hlow, hlen⟩ := hat k hlt
      clear hat
      generalize x[k] = r at *
      have hof : OkR r → OffF G (.slice a en ec) := fun hok a' n' c' e hg => by have := hlow a' n' c' e (by intro e0; rw [e0] at hok; exact absurd hok.1 (by simp)); have := (HR.out.u.l.lo _ hg).1; omega
      have HAP : Hid (Calls Try.prog 15 #[.pointer (some ⟨gl, 0, none⟩), .slice a en ec] wr fun e w' => (∃ z : Int, e = .returned (.int .i64 z)) ∧ ∃ G' recs', DB wq w' F G' (.pointer (some ⟨gd, 0, none⟩)) (.pointer (some ⟨gl, 0, none⟩)) D recs' 0) := by
        refine (duo_append_any HR.out.u (.slice a en ec) r hBy hof hlen).mono ?_
        rintro e w' (⟨_, _, he, G', hu, hO⟩ | ⟨hbad, hb⟩)
        · exact ⟨⟨_, he⟩, G', _, HR.out.turn hu hO⟩
        · refine ⟨?_, G, recs, HR.out.keepB hb⟩
          rcases hbad with ⟨_, h⟩ | ⟨_, _, h⟩
          · exact ⟨_, h⟩
          · exact ⟨_, h⟩
      clear hof hBy hlow
      go_wp2_with fail
      refine HAP.out.mono ?_
      rintro e w5 ⟨⟨z, rfl⟩, G5, recs5, hR5⟩
      have HR5 : Hid (DB wq w5 F G5 (.pointer (some ⟨gd, 0, none⟩)) (.pointer (some ⟨gl, 0, none⟩)) D recs5 0) := hR5
      clear hcell hR5 HAP
      go_wp2
      go_roundw
      case rel => exact ⟨k + 1, G5, recs5, by omega, by go_num, HR5⟩
      case measure => simp [intOf]; omega
    · go_wp2_with fail
      refine (duo_flush HR.out.u (by omega)).mono ?_
      rintro e w7 ⟨rfl, F7, hU7, hO7⟩
      have hln := flushD_len D 0 40 recs 0 HR.out.u.le
      have hR7 := HR.out.turn hU7 hO7
      obtain ⟨D1, hD1⟩ : ∃ D1, flushD D 0 recs 0 = D1 := ⟨_, rfl⟩
      rw [hD1] at hR7 hln
      obtain ⟨fl1, hfl1⟩ : ∃ f, recs.length = f := ⟨_, rfl⟩
      rw [hfl1] at hR7
      have HR7 : Hid (DB wq w7 F7 G (.pointer (some ⟨gd, 0, none⟩)) (.pointer (some ⟨gl, 0, none⟩)) D1 recs fl1) := hR7
      have HRUNY : Hid (DB wq w7 F7 G (.pointer (some ⟨gd, 0, none⟩)) (.pointer (some ⟨gl, 0, none⟩)) D1 recs fl1) := hR7
      clear hR7 hU7 hO7 HR hD1 HRUNX hfl1
      go_wp2
      go_loopw [12] (fun i wr => ∃ (k : Nat) (G : Nat → Prop) (recs : List (List UInt8)), k ≤ y.length ∧ i = .int .i64 k ∧ Hid (DB wq wr F7 G (.pointer (some ⟨gd, 0, none⟩)) (.pointer (some ⟨gl, 0, none⟩)) D1 recs fl1)) (fun i _ => y.length - (intOf i).toNat)
      case atStart => exact ⟨0, G, recs, Nat.zero_le _, rfl, HRUNY⟩
      case round =>
        obtain ⟨k, G, recs, hk, rfl, HR⟩ := hrel
        by_cases hlt : k < y.length
        · obtain ⟨ao1, cap1, hv1, hc1, hat⟩ := (HY.out.keep HR.out.b).at
          cases hv1
          obtain ⟨g, o, a, en, ec, rfl, hgB, hcell, hBy, hlow, hlen⟩ := hat k hlt
          clear hat
          generalize y[k] = r at *
          have hof : OkR r → OffF G (.slice a en ec) := fun hok a' n' c' e hg => by have := hlow a' n' c' e (by intro e0; rw [e0] at hok; exact absurd hok.1 (by simp)); have := (HR.out.u.l.lo _ hg).1; omega
          have HAP : Hid (Calls Try.prog 15 #[.pointer (some ⟨gl, 0, none⟩), .slice a en ec] wr fun e w' => (∃ z : Int, e = .returned (.int .i64 z)) ∧ ∃ G' recs', DB wq w' F7 G' (.pointer (some ⟨gd, 0, none⟩)) (.pointer (some ⟨gl, 0, none⟩)) D1 recs' fl1) := by
            refine (duo_append_any HR.out.u (.slice a en ec) r hBy hof hlen).mono ?_
            rintro e w' (⟨_, _, he, G', hu, hO⟩ | ⟨hbad, hb⟩)
            · exact ⟨⟨_, he⟩, G', _, HR.out.turn hu hO⟩
            · refine ⟨?_, G, recs, HR.out.keepB hb⟩
              rcases hbad with ⟨_, h⟩ | ⟨_, _, h⟩
              · exact ⟨_, h⟩
              · exact ⟨_, h⟩
          clear hof hBy hlow
          go_wp2_with fail
          refine HAP.out.mono ?_
          rintro e w5 ⟨⟨z, rfl⟩, G5, recs5, hR5⟩
          have HR5 : Hid (DB wq w5 F7 G5 (.pointer (some ⟨gd, 0, none⟩)) (.pointer (some ⟨gl, 0, none⟩)) D1 recs5 fl1) := hR5
          clear hcell hR5 HAP
          go_wp2
          go_roundw
          case rel => exact ⟨k + 1, G5, recs5, by omega, by go_num, HR5⟩
          case measure => simp [intOf]; omega
        · clear HR7 HRUNY
          go_wp2_with fail
          refine (duo_flush HR.out.u (by omega)).mono ?_
          rintro e w8 ⟨rfl, F8, hU8, hO8⟩
          have hln2 := flushD_len D1 0 40 recs fl1 HR.out.u.le
          have hR8 := HR.out.turn hU8 hO8
          obtain ⟨D2, hD2⟩ : ∃ D2, flushD D1 0 recs fl1 = D2 := ⟨_, rfl⟩
          rw [hD2] at hR8 hln2
          have HR8 : Hid (DB wq w8 F8 G (.pointer (some ⟨gd, 0, none⟩)) (.pointer (some ⟨gl, 0, none⟩)) D2 recs recs.length) := hR8
          have hsz8 : (0 : Int) + 40 ≤ D2.size := hR8.u.sz
          obtain ⟨e0, e1⟩ := HQ5.out.keep hR8.b
          have HK8 : Hid (Bools w8 (.slice ka k1n k1c) ks1) := HKK1.out.keep hR8.b
          have hD64 : D2.ws.length ≤ 1000 := by omega
          clear hR8 hU8 hO8 hD2 HR hln2 hln
          have HWR : Hid (∀ wz, Below w8.heap.size w8 wz → Calls Try.prog 26 #[.pointer (some ⟨gd, 0, none⟩)] wz fun e w' => e = .returned (.int .i64 D2.ws.length) ∧ w' = wz) := fun wz hz => writes_any (HR8.out.u.d.keepB hz)
          have HCA : Hid (∀ q wz, q < D2.ws.length + 1 → Below w8.heap.size w8 wz → Calls Try.prog 27 #[.pointer (some ⟨gd, 0, none⟩), .int .i64 (q : Nat), .slice ka k1n k1c] wz fun e w' => ∃ (c : Nat) (FT : Nat → Prop) (DT : DS), e = .returned (.pointer (some ⟨c, 0, none⟩)) ∧ DiskAt w8.heap.size w' FT (.pointer (some ⟨c, 0, none⟩)) D2.ws.length DT ∧ DT.still ∧ DT.ws = [] ∧ (0 : Int) + 40 ≤ DT.size ∧ DT.first = DT.now ∧ Below w8.heap.size w8 w') := by
            intro q wz hq hz
            refine (cutAt_left (B := w8.heap.size) (HR8.out.u.d.keepB hz) q (by omega) _ rfl _ ks1 (HK8.out.keep hz) hz.size).mono ?_
            rintro e w' ⟨c, FT, he, hDT, _, hb⟩
            rw [Nat.zero_add] at hDT
            exact ⟨c, FT, _, he, hDT, ⟨rfl, rfl⟩, rfl, hsz8, rfl, hz.trans (hb.mono hz.size)⟩
          obtain ⟨q0, hq0⟩ : ∃ q0 : Nat, D2.ws.length + 1 = q0 := ⟨_, rfl⟩
          have hq1 : (D2.ws.length : Int) + 1 = (q0 : Int) := by omega
          have hwq : IntKind.i64.wrap (q0 : Int) = (q0 : Int) := by rw [IntKind.wrap_i64]; omega
          rw [hq0] at HCA
          go_wp2
          go_region_held_law (fun w' => w'.cell? ⟨g5, 0, none⟩ = some (.int .i64 c1) ∧ w'.cell? ⟨g5, 1, none⟩ = some (.slice ka k1n k1c)) (first | exact ⟨e0, e1⟩ | exact ⟨cell_keep hbT e0, cell_keep hbT e1⟩) (first
            | (go_at_call 26; refine (HWR.out _ (Below.refl _ _).drew).mono ?_; rintro e wy ⟨rfl, hwy⟩; subst hwy)
            | (go_at_call 9; refine (pick_any c1 q0 _ hat1 (by omega) (by omega)).mono ?_; rintro e wy ⟨⟨q, hq, rfl⟩, hwy⟩; subst hwy)
            | (go_at_call 27; refine (HCA.out q _ hq (Below.refl _ _).drew).mono ?_; rintro e w9 ⟨ct, FT, DT, rfl, hDT, hstT, hwsT, hszT, hfnT, hbT⟩))
          have HDT : Hid (DiskAt w8.heap.size w9 FT (.pointer (some ⟨ct, 0, none⟩)) D2.ws.length DT) := hDT
          have HST : Hid (DT.still ∧ DT.ws = [] ∧ DT.first = DT.now) := ⟨hstT, hwsT, hfnT⟩
          have HB9 : Hid (Below wq.heap.size wq w9) := HR8.out.b.trans (hbT.mono HR8.out.b.size)
          have hBT : w8.heap.size ≤ w9.heap.size := hbT.size
          have hwq8 : wq.heap.size ≤ w8.heap.size := HR8.out.b.size
          clear HCA HWR e0 e1 HK8 hDT hstT hwsT hfnT hbT hq0 hq1 hwq HR8
          go_wp2_with fail
          refine (duo_open HDT.out HST.out.1.1 0 40 (by omega) hszT (by rw [HST.out.2.1]; simp; omega)).mono ?_
          rintro e w10 ⟨was, gm, F10, G10, rfl, hpW, hU10, hO10, _, hO10'⟩
          have HPW : Hid (Parses (reg DT.now ((0 : Nat) : Int) 40) was) := hpW
          have HU10 : Hid (Duo w8.heap.size w10 F10 G10 (.pointer (some ⟨ct, 0, none⟩)) (.pointer (some ⟨gm, 0, none⟩)) D2.ws.length (DT.settle ((0 : Nat) : Int) 40 (frames was)) ((0 : Nat) : Int) 40 was was.length) := hU10
          have HB10 : Hid (Below wq.heap.size wq w10) := HB9.out.trans (hO10.below HB9.out.size (fun k hk => Nat.le_trans hwq8 (HDT.out.lo k hk).1))
          have hEl : (DT.settle ((0 : Nat) : Int) 40 (frames was)).ws.length ≤ 40 := by
            rw [DS.settle_len _ _ _ _ hU10.le, HST.out.2.1]; simp
          have hwl := hU10.ok
          have hwle := hU10.le
          clear hpW hU10 hO10 hO10' HDT
          go_wp2_with fail
          refine (records_any HU10.out.l HU10.out.oks).mono ?_
          rintro e w11 ⟨v16, rfl, ⟨vsW, hN11⟩, hb11⟩
          have HRW : Hid (RecsIn w11 (fun k => w10.heap.size ≤ k ∧ k < w11.heap.size) v16 was) := hN11.recs
          have HU11 : Hid (Duo w8.heap.size w11 F10 G10 (.pointer (some ⟨ct, 0, none⟩)) (.pointer (some ⟨gm, 0, none⟩)) D2.ws.length (DT.settle ((0 : Nat) : Int) 40 (frames was)) ((0 : Nat) : Int) 40 was was.length) := HU10.out.keepB hb11
          have HB11 : Hid (Below wq.heap.size wq w11) := HB10.out.trans (hb11.mono HB10.out.size)
          have hF10 : ∀ k, F10 k → k < w10.heap.size := fun k hk => (HU10.out.d.lo k hk).2
          have HF10 : Hid (∀ k, F10 k → k < w10.heap.size) := hF10
          have hs1011 := hb11.size
          clear hN11 hb11 hF10 HU10 HB10
          obtain ⟨E, hE⟩ : ∃ E, DT.settle ((0 : Nat) : Int) 40 (frames was) = E := ⟨_, rfl⟩
          have HE : Hid (DT.settle ((0 : Nat) : Int) 40 (frames was) = E) := hE
          rw [hE] at HU11 hEl
          obtain ⟨e0, e1⟩ := HQ6.out.keep HB11.out
          have HK11 : Hid (Bools w11 (.slice kb k2n k2c) ks2) := HKK2.out.keep HB11.out
          have hszE : (0 : Int) + 40 ≤ E.size := HU11.out.sz
          clear hE
          have HWR : Hid (∀ wz, Below w11.heap.size w11 wz → Calls Try.prog 26 #[.pointer (some ⟨ct, 0, none⟩)] wz fun e w' => e = .returned (.int .i64 E.ws.length) ∧ w' = wz) := fun wz hz => writes_any (HU11.out.d.keepB hz)
          have HCA : Hid (∀ q wz, q < E.ws.length + 1 → Below w11.heap.size w11 wz → Calls Try.prog 27 #[.pointer (some ⟨ct, 0, none⟩), .int .i64 (q : Nat), .slice kb k2n k2c] wz fun e w' => ∃ (c : Nat) (FN : Nat → Prop) (DN : DS) (nN : Nat), e = .returned (.pointer (some ⟨c, 0, none⟩)) ∧ DiskAt w11.heap.size w' FN (.pointer (some ⟨c, 0, none⟩)) nN DN ∧ DN.sound ∧ nN + DN.ws.length + 40 + 1 < 100000 ∧ (0 : Int) + 40 ≤ DN.size ∧ Parses (reg DN.now ((0 : Nat) : Int) 40) was ∧ Below w11.heap.size w11 w') := by
            intro q wz hq hz
            have hDz := HU11.out.d.keepB hz
            refine (cutAt_left (B := w11.heap.size) hDz q (by omega) _ rfl _ ks2 (HK11.out.keep hz) hz.size).mono ?_
            rintro e w' ⟨c, FN, he, hDN, _, hb⟩
            refine ⟨c, FN, _, _, he, hDN, rfl, by show _ + _ + 0 + 40 + 1 < 100000; omega, hszE, ?_, hz.trans (hb.mono hz.size)⟩
            obtain ⟨hst, hws, hfn⟩ := HST.out
            by_cases hq0 : q = 0
            · subst hq0
              have e2 : (E.left 0 (E.safeAt 0) ks2).now = DT.now := by
                show cutF ks2 (E.safeAt 0) E.first (E.ws.take 0) = DT.now
                rw [← HE.out]
                simp [cutF]
                exact hfn
              rw [e2]; exact HPW.out
            · have hlens := hDz.first_len
              have hG := left_len (D := E) (m := q) (s := E.safeAt q) (ks := ks2) hlens.1 hlens.2
              have hlT : ∀ i, (DT.now i).length = 128 := by rw [← hfn]; have := hlens.1; rw [← HE.out] at this; exact this
              have hqE : q ≤ E.ws.length := by omega
              rw [← HE.out] at hG hqE ⊢
              exact open_crash DT hst hlT _ 40 was HPW.out q (by rw [hws]; simp; omega) hqE ks2 hG
          obtain ⟨q0, hq0⟩ : ∃ q0 : Nat, E.ws.length + 1 = q0 := ⟨_, rfl⟩
          have hq1 : (E.ws.length : Int) + 1 = (q0 : Int) := by omega
          have hwq : IntKind.i64.wrap (q0 : Int) = (q0 : Int) := by rw [IntKind.wrap_i64]; omega
          rw [hq0] at HCA
          have HOPN : Hid (∀ (c : Nat) (FN : Nat → Prop) (DN : DS) (nN : Nat) wz, DiskAt w11.heap.size wz FN (.pointer (some ⟨c, 0, none⟩)) nN DN → DN.sound → nN + DN.ws.length + 40 + 1 < 100000 → (0 : Int) + 40 ≤ DN.size → Parses (reg DN.now ((0 : Nat) : Int) 40) was → Below w11.heap.size w11 wz → Calls Try.prog 13 #[.pointer (some ⟨c, 0, none⟩), .int .i64 0, .int .i64 40] wz fun e w' => ∃ (g : Nat) (G' : Nat → Prop), e = .returned (.tuple #[.pointer (some ⟨g, 0, none⟩), .int .i64 0]) ∧ LogAt w11.heap.size w' G' (.pointer (some ⟨g, 0, none⟩)) (.pointer (some ⟨c, 0, none⟩)) (LSof ((0 : Nat) : Int) 40 was was.length) ∧ Below w11.heap.size w11 w') := by
            intro c FN DN nN wz hDN hsN hcN hzN hpN hbz
            refine (duo_open hDN hsN 0 40 (by omega) hzN hcN).mono ?_
            rintro e w' ⟨recsN, g, F', G', he, hp, hU, hO, _, _⟩
            obtain rfl := parses_unique hp hpN
            exact ⟨g, G', he, hU.l, hbz.trans (hO.below hbz.size (fun k hk => (hDN.lo k hk).1))⟩
          go_wp2
          go_region_held_law (fun w' => w'.cell? ⟨g6, 0, none⟩ = some (.int .i64 c2) ∧ w'.cell? ⟨g6, 1, none⟩ = some (.slice kb k2n k2c)) (first | exact ⟨e0, e1⟩ | exact ⟨cell_keep hbO e0, cell_keep hbO e1⟩ | exact ⟨cell_keep hbN e0, cell_keep hbN e1⟩) (first
            | (go_at_call 26; refine (HWR.out _ (Below.refl _ _).drew).mono ?_; rintro e wy ⟨rfl, hwy⟩; subst hwy)
            | (go_at_call 9; refine (pick_any c2 q0 _ hat2 (by omega) (by omega)).mono ?_; rintro e wy ⟨⟨q, hq, rfl⟩, hwy⟩; subst hwy)
            | (go_at_call 27; refine (HCA.out q _ hq (Below.refl _ _).drew).mono ?_; rintro e w12 ⟨cn, FN, DN, nN, rfl, hDN, hsN, hcN, hzN, hpN, hbN⟩)
            | (go_at_call 13; refine (HOPN.out cn FN DN nN _ hDN hsN hcN hzN hpN hbN).mono ?_; rintro e w13 ⟨gn, GN, rfl, hLN, hbO⟩))
          have HLN : Hid (LogAt w11.heap.size w13 GN (.pointer (some ⟨gn, 0, none⟩)) (.pointer (some ⟨cn, 0, none⟩)) (LSof ((0 : Nat) : Int) 40 was was.length)) := hLN
          have HOKW : Hid (∀ r ∈ was, OkR r) := HU11.out.oks
          clear HCA HOPN hDN hsN hcN hzN hpN hbN hLN hq0 hq1 hwq e0 e1
          go_wp2_with fail
          refine (records_any HLN.out HOKW.out).mono ?_
          rintro e w14 ⟨v14, rfl, ⟨vs14, hN14⟩, hb14⟩
          have hb14' : Below w11.heap.size w11 w14 := hbO.trans (hb14.mono hbO.size)
          go_wp2_with fail
          refine (same_any hN14.recs (HRW.out.keepB hb14') (by omega)).mono ?_
          rintro e w15 ⟨rfl, hb15⟩
          have hdt : decide (was = was) = true := decide_eq_true rfl
          rw [hdt]
          have hb15' : Below w11.heap.size w11 w15 := hb14'.trans (hb15.mono hb14'.size)
          have HU15 : Hid (Duo w8.heap.size w15 F10 G10 (.pointer (some ⟨ct, 0, none⟩)) (.pointer (some ⟨gm, 0, none⟩)) D2.ws.length E ((0 : Nat) : Int) 40 was was.length) := HU11.out.keepB hb15'
          have HRW15 : Hid (RecsIn w15 (fun k => w10.heap.size ≤ k ∧ k < w11.heap.size) v16 was) := HRW.out.keepB hb15'
          have HB15 : Hid (Below wq.heap.size wq w15) := HB11.out.trans (hb15'.mono HB11.out.size)
          have hwr15 : Hid (Calls Try.prog 26 #[.pointer (some ⟨ct, 0, none⟩)] w15 fun e w' => e = .returned (.int .i64 E.ws.length) ∧ w' = w15) := HWR.out _ hb15'
          clear hdt hN14 hb14 hb14' hb15 HWR HLN hbO HRW HK11
          go_wp2_with fail
          refine hwr15.out.mono ?_
          rintro e wz ⟨rfl, hwz⟩
          subst hwz
          have hfo := duo_format HU15.out.d HU15.out.st.1 0 40 (by omega) hszE (by omega)
          have HFO : Hid (Calls Try.prog 11 #[.pointer (some ⟨ct, 0, none⟩), .int .i64 0, .int .i64 40] wz fun e w' => ∃ (g : Nat) (F' G : Nat → Prop), e = .returned (.tuple #[.pointer (some ⟨g, 0, none⟩), .int .i64 0]) ∧ DiskAt w8.heap.size w' F' (.pointer (some ⟨ct, 0, none⟩)) D2.ws.length (E.settle ((0 : Nat) : Int) 40 []) ∧ RecsIn w' (fun k => w10.heap.size ≤ k ∧ k < w11.heap.size) v16 was ∧ Below wq.heap.size wq w') := by
            refine hfo.mono ?_
            rintro e w' ⟨g, F', G', he, hU, hO⟩
            exact ⟨g, F', G', he, hU.d, HRW15.out.keep hO.f (fun k hk hf => by have := HF10.out k hf; omega), HB15.out.trans (hO.below HB15.out.size (fun k hk => Nat.le_trans hwq8 (HU15.out.d.lo k hk).1))⟩
          have HPE : Hid (Parses (reg E.now ((0 : Nat) : Int) 40) was) := (HU15.out.clean rfl).parses (now_len HU15.out.d) HU15.out.oks HU15.out.le
          have HSE : Hid (E.still ∧ ∀ i, (E.now i).length = 128) := ⟨HU15.out.st, now_len HU15.out.d⟩
          clear hfo hwr15 HU15 HRW15 HB15 HU11 hb15' HB11 HB9
          go_wp2_with fail
          refine HFO.out.mono ?_
          rintro e w16 ⟨g16, F16, G16, rfl, hD16, hRW16, hB16⟩
          have HD16 : Hid (DiskAt w8.heap.size w16 F16 (.pointer (some ⟨ct, 0, none⟩)) D2.ws.length (E.settle ((0 : Nat) : Int) 40 [])) := hD16
          have HRW16 : Hid (RecsIn w16 (fun k => w10.heap.size ≤ k ∧ k < w11.heap.size) v16 was) := hRW16
          have HB16 : Hid (Below wq.heap.size wq w16) := hB16
          obtain ⟨e0, e1⟩ := HQ6.out.keep hB16
          have HK16 : Hid (Bools w16 (.slice kb k2n k2c) ks2) := HKK2.out.keep hB16
          have hE2l : (E.settle ((0 : Nat) : Int) 40 []).ws.length = E.ws.length + 40 := by rw [DS.settle_len _ _ _ _ (by simp)]; simp
          have HWR : Hid (∀ wz, Below w16.heap.size w16 wz → Calls Try.prog 26 #[.pointer (some ⟨ct, 0, none⟩)] wz fun e w' => e = .returned (.int .i64 (E.ws.length + 40 : Nat)) ∧ w' = wz) := fun wz hz => by rw [← hE2l]; exact writes_any (HD16.out.keepB hz)
          have HCO : Hid (∀ q wz, q < 40 → Below w16.heap.size w16 wz → Calls Try.prog 27 #[.pointer (some ⟨ct, 0, none⟩), .int .i64 ((E.ws.length : Int) + 1 + (q : Nat)), .slice kb k2n k2c] wz fun e w' => ∃ (c : Nat) (FN : Nat → Prop) (DN : DS) (nN : Nat), e = .returned (.pointer (some ⟨c, 0, none⟩)) ∧ DiskAt w16.heap.size w' FN (.pointer (some ⟨c, 0, none⟩)) nN DN ∧ DN.sound ∧ nN + DN.ws.length + 40 + 1 < 100000 ∧ (0 : Int) + 40 ≤ DN.size ∧ (Parses (reg DN.now ((0 : Nat) : Int) 40) was ∨ Parses (reg DN.now ((0 : Nat) : Int) 40) []) ∧ Below w16.heap.size w16 w') := by
            intro q wz hq hz
            have hDz := HD16.out.keepB hz
            refine (cutAt_left (B := w16.heap.size) hDz (E.ws.length + 1 + q) (by omega) _ (by omega) _ ks2 (HK16.out.keep hz) hz.size).mono ?_
            rintro e w' ⟨c, FN, he, hDN, _, hb⟩
            refine ⟨c, FN, _, _, he, hDN, rfl, by show _ + _ + 0 + 40 + 1 < 100000; omega, hszE, ?_, hz.trans (hb.mono hz.size)⟩
            have hlens := hDz.first_len
            have hG := left_len (D := E.settle ((0 : Nat) : Int) 40 []) (m := E.ws.length + 1 + q) (s := (E.settle ((0 : Nat) : Int) 40 []).safeAt (E.ws.length + 1 + q)) (ks := ks2) hlens.1 hlens.2
            exact format_crash E HSE.out.1 HSE.out.2 _ 40 was HPE.out (E.ws.length + 1 + q) (by omega) (by omega) ks2 hG
          have HOPO : Hid (∀ (c : Nat) (FN : Nat → Prop) (DN : DS) (nN : Nat) wz, DiskAt w16.heap.size wz FN (.pointer (some ⟨c, 0, none⟩)) nN DN → DN.sound → nN + DN.ws.length + 40 + 1 < 100000 → (0 : Int) + 40 ≤ DN.size → (Parses (reg DN.now ((0 : Nat) : Int) 40) was ∨ Parses (reg DN.now ((0 : Nat) : Int) 40) []) → Below w16.heap.size w16 wz → Calls Try.prog 13 #[.pointer (some ⟨c, 0, none⟩), .int .i64 0, .int .i64 40] wz fun e w' => ∃ (g : Nat) (G' : Nat → Prop) (recsO : List (List UInt8)), e = .returned (.tuple #[.pointer (some ⟨g, 0, none⟩), .int .i64 0]) ∧ LogAt w16.heap.size w' G' (.pointer (some ⟨g, 0, none⟩)) (.pointer (some ⟨c, 0, none⟩)) (LSof ((0 : Nat) : Int) 40 recsO recsO.length) ∧ (recsO = was ∨ recsO = []) ∧ (∀ r ∈ recsO, OkR r) ∧ Below w16.heap.size w16 w') := by
            intro c FN DN nN wz hDN hsN hcN hzN hpN hbz
            refine (duo_open hDN hsN 0 40 (by omega) hzN hcN).mono ?_
            rintro e w' ⟨recsN, g, F', G', he, hp, hU, hO, _, _⟩
            refine ⟨g, G', recsN, he, hU.l, ?_, hU.oks, hbz.trans (hO.below hbz.size (fun k hk => (hDN.lo k hk).1))⟩
            rcases hpN with h | h
            · exact Or.inl (parses_unique hp h)
            · exact Or.inr (parses_unique hp h)
          have hw1 : IntKind.i64.wrap ((E.ws.length : Int) + 1) = (E.ws.length : Int) + 1 := by rw [IntKind.wrap_i64]; omega
          have hw40 : IntKind.i64.wrap (((E.ws.length + 40 : Nat) : Int) - (E.ws.length : Int)) = 40 := by rw [IntKind.wrap_i64]; omega
          have hw40' : ((E.ws.length + 40 : Nat) : Int) - (E.ws.length : Int) = 40 := by omega
          have hw40'' : (E.ws.length : Int) + 40 - (E.ws.length : Int) = 40 := by omega
          have hwj : ∀ q : Nat, q < 40 → IntKind.i64.wrap ((E.ws.length : Int) + 1 + (q : Int)) = (E.ws.length : Int) + 1 + (q : Int) := fun q hq => by rw [IntKind.wrap_i64]; omega
          clear HFO hD16 hRW16 hB16 hE2l HPE HSE
          go_wp2
          go_region_held_law (fun w' => w'.cell? ⟨g6, 0, none⟩ = some (.int .i64 c2) ∧ w'.cell? ⟨g6, 1, none⟩ = some (.slice kb k2n k2c)) (first | exact ⟨e0, e1⟩) (first
            | (go_at_call 26; refine (HWR.out _ (Below.refl _ _).drew).mono ?_; rintro e wy ⟨rfl, hwy⟩; subst hwy)
            | (go_at_call 9; refine (pick_any c2 40 _ hat2 (by omega) (by omega)).mono ?_; rintro e wy ⟨⟨q, hq, rfl⟩, hwy⟩; subst hwy; have hwjq := hwj q hq))
          go_wp2_with fail
          refine (HCO.out q _ hq (Below.refl _ _).drew).mono ?_
          rintro e w17 ⟨co, FN2, DN2, nN2, rfl, hDN2, hsN2, hcN2, hzN2, hpN2, hbN2⟩
          clear HCO HWR hw1 hw40 hw40' hw40'' hwj hwjq e0 e1
          go_wp2_with fail
          refine (HOPO.out co FN2 DN2 nN2 _ hDN2 hsN2 hcN2 hzN2 hpN2 hbN2).mono ?_
          rintro e w18 ⟨go2, G18, recsO, rfl, hL18, hrO, hokO, hb18⟩
          have HL18 : Hid (LogAt w16.heap.size w18 G18 (.pointer (some ⟨go2, 0, none⟩)) (.pointer (some ⟨co, 0, none⟩)) (LSof ((0 : Nat) : Int) 40 recsO recsO.length)) := hL18
          have HRO : Hid (recsO = was ∨ recsO = []) := hrO
          have HOKO : Hid (∀ r ∈ recsO, OkR r) := hokO
          clear HOPO hDN2 hsN2 hcN2 hzN2 hpN2 hbN2 hL18 hrO hokO
          go_wp2_with fail
          refine (records_any HL18.out HOKO.out).mono ?_
          rintro e w19 ⟨v19, rfl, ⟨vs19, hN19⟩, hb19⟩
          have hb19' : Below w16.heap.size w16 w19 := hb18.trans (hb19.mono hb18.size)
          obtain ⟨ao19, cap19, hv19, hc19, _⟩ := hN19.recs
          subst hv19
          have HN19 : Hid (RecsIn w19 (fun k => w18.heap.size ≤ k ∧ k < w19.heap.size) (.slice ao19 recsO.length cap19) recsO) := hN19.recs
          have HRW19 : Hid (RecsIn w19 (fun k => w10.heap.size ≤ k ∧ k < w11.heap.size) v16 was) := HRW16.out.keepB hb19'
          have HB19 : Hid (Below w.heap.size w w19) := by
            have q1 := HB16.out.trans (hb19'.mono HB16.out.size)
            exact hbq.trans (q1.mono hbq.size)
          have hrol : recsO.length ≤ 100000 := by
            rcases HRO.out with h | h
            · rw [h]; omega
            · rw [h]; simp
          clear hN19 hb19 hb19' hb18 hc19
          by_cases hz : recsO.length = 0
          · have hzI : (recsO.length : Int) = 0 := by omega
            have HF : Hid (Below w.heap.size w w19) := HB19
            go_wp2
            go_ret
            exact ⟨rfl, HF.out⟩
          · have hzI : ¬ ((recsO.length : Int) = 0) := by omega
            have hdt2 : decide (recsO = was) = true := decide_eq_true (by
              rcases HRO.out with h | h
              · exact h
              · rw [h] at hz; simp at hz)
            have hsm := same_any HN19.out HRW19.out (by omega)
            rw [hdt2] at hsm
            have HSM : Hid (Calls Try.prog 20 #[.slice ao19 recsO.length cap19, v16] w19 fun e w' => e = .returned (.bool true) ∧ Below w19.heap.size w19 w') := hsm
            clear hsm hdt2
            go_wp2_with (first | (go_at_call 20; refine HSM.out.mono ?_; rintro e w20 ⟨rfl, hb20⟩))
            go_ret
            exact ⟨rfl, HB19.out.trans (hb20.mono HB19.out.size)⟩
end Go.Proofs.Ytcommmgelmbhbaa
