/- Package wal: settle, checkRegion, Format. -/
import Derived.Test.YtcjoolmlobjpbaaW6D
namespace Go.Proofs.Ytcjoolmlobjpbaa
open Go.RowKit Go.Maps
set_option linter.unusedVariables false
set_option linter.unusedSimpArgs false

/-- A disk, one call later. -/
structure DPost (base : Nat) (w w' : World) (F F' : Nat → Prop) (p : Value) (n : Nat) (D : DS) : Prop where
  d : DiskAt base w' F' p n D
  f : Fr w w' F
  o : ∀ k, F' k → F k ∨ w.heap.size ≤ k
theorem DPost.trans {base : Nat} {w w1 w2 : World} {F F1 F2 : Nat → Prop} {p : Value} {n n' : Nat} {D D' : DS} (h : DPost base w w1 F F1 p n D) (k : DPost base w1 w2 F1 F2 p n' D') : DPost base w w2 F F2 p n' D' :=
  ⟨k.d, h.f.trans k.f h.o, fun i hi => by
    rcases k.o i hi with h1 | h1
    · exact h.o i h1
    · right; have := h.f.size; omega⟩
theorem DPost.apart {base : Nat} {w w1 : World} {F F1 G : Nat → Prop} {p : Value} {n : Nat} {D : DS} (h : DPost base w w1 F F1 p n D) (hd : ∀ k, F k → ¬ G k) (hg : ∀ k, G k → k < w.heap.size) : ∀ k, F1 k → ¬ G k := fun k hk hgk => by
  rcases h.o k hk with h1 | h1
  · exact hd k h1 hgk
  · have := hg k hgk; omega
theorem sync_post {base : Nat} {F : Nat → Prop} {p : Value} {n : Nat} {D : DS} {w : World} (h : DiskAt base w F p n D) :
    Calls Try.prog 44 #[p] w fun e w' => e = .returned (.tuple #[]) ∧ DPost base w w' F F p n D.sync :=
  (sync_any h).mono fun e w' ⟨h1, h2, h3⟩ => ⟨h1, h2, h3, fun k hk => Or.inl hk⟩
theorem lay_post {base : Nat} {w : World} {F G : Nat → Prop} {p pl : Value} {n : Nat} {D : DS} {L : LS} (hD : DiskAt base w F p n D) (hL : LogAt base w G pl p L) (hd : ∀ k, F k → ¬ G k) (a b : Nat) (hb : b ≤ L.n) (ha : a ≤ L.n) (hsz : L.first + L.n ≤ D.size) (hcnt : n + D.ws.length + (b - a) < 100000) :
    Calls Try.prog 37 #[pl, .int .i64 a, .int .i64 b] w fun e w' => e = .returned (.tuple #[]) ∧ ∃ F', DPost base w w' F F' p n (D.lay L.first L.fr a b) :=
  (lay_any hD hL hd a b hb ha hsz hcnt).mono fun e w' ⟨h1, F', h2, h3, h4⟩ => ⟨h1, F', h2, h3, h4⟩
theorem lay_ws (D : DS) (first : Int) (fr : List UInt8) (a b : Nat) : (D.lay first fr a b).ws.length = D.ws.length + (b - a) := by
  show (D.ws ++ layW _ _ _ _ _).length = _
  rw [List.length_append, layW_len]
set_option maxHeartbeats 2000000 in
theorem settle_any {base : Nat} {w : World} {F G : Nat → Prop} {p pl : Value} {n : Nat} {D : DS} {L : LS} (hD : DiskAt base w F p n D) (hL : LogAt base w G pl p L) (hd : ∀ k, F k → ¬ G k) (hsz : L.first + L.n ≤ D.size) (hcnt : n + D.ws.length + L.n + 1 < 100000) :
    Calls Try.prog 30 #[pl] w fun e w' => e = .returned (.tuple #[]) ∧ ∃ F', DPost base w w' F F' p n (D.settle L.first L.n L.fr) := by
  have hGlt : ∀ k, G k → k < w.heap.size := fun k hk => (hL.lo k hk).2
  obtain ⟨_, hn, hlen, _⟩ := hL.ok
  have HL : Hid (LogAt base w G pl p L) := hL
  have HD : Hid (DiskAt base w F p n D) := hD
  obtain ⟨g, vf, vr, rfl, hL⟩ := hL
  obtain ⟨dg, _, _, _, rfl, _⟩ := hD
  obtain ⟨aof, capf, rfl, hcf, _⟩ := hL.fr.toBytes.form
  obtain ⟨c0, c1, c2, c3, c4, c5, fz⟩ := cells6 hL.hg
  have hgl : g < w.heap.size := (hL.lo g hL.gg).2
  have hng : ¬ F g := fun h => hd g h hL.gg
  clear hL
  obtain ⟨e, he⟩ : ∃ e : Nat, L.fr.length / 128 = e := ⟨_, rfl⟩
  have he1 : (L.fr.length : Int) / 128 = (e : Int) := by omega
  obtain ⟨f, hf⟩ : ∃ f : Nat, e + 1 = f := ⟨_, rfl⟩
  have hf1 : (e : Int) + 1 = (f : Int) := by omega
  have HE : Hid (D.settle L.first L.n L.fr = ((D.sync.lay L.first L.fr e (min f L.n)).lay L.first L.fr (min f L.n) L.n)) := by
    show _ = _
    unfold DS.settle
    rw [he, hf]
  have hle : e ≤ L.n := by omega
  clear he hf
  by_cases hm : f ≤ L.n
  · have hM : Hid (min f L.n = f) := Nat.min_eq_left hm
    go_enter Try.func30, Try.ntmps30
    go_wp2_with fail
    refine (sync_post HD.out).mono ?_
    rintro ee w1 ⟨rfl, hP1⟩
    have b0 := fr_cell hP1.f hng c0
    have b2 := fr_cell hP1.f hng c2
    have b3 := fr_cell hP1.f hng c3
    have HL1 : Hid (LogAt base w1 G _ _ L) := HL.out.keep hP1.f (fun k hk hf => hd k hf hk)
    clear c0 c1 c2 c3 c4 c5 fz
    go_wp2_with fail
    refine (lay_post hP1.d HL1.out hd e f (by omega) hle hsz (by show n + D.ws.length + (f - e) < 100000; omega)).mono ?_
    rintro ee w2 ⟨rfl, F2, hP2⟩
    have hd2 := hP2.apart hd (fun k hk => (HL1.out.lo k hk).2)
    have HL2 : Hid (LogAt base w2 G _ _ L) := HL1.out.keep hP2.f (fun k hk hf => hd k hf hk)
    have d2 := fr_cell hP2.f hng b2
    clear b0 b2 b3
    go_wp2_with fail
    refine (lay_post hP2.d HL2.out hd2 f L.n (Nat.le_refl _) hm hsz (by rw [lay_ws]; show n + (D.ws.length + (f - e)) + (L.n - f) < 100000; omega)).mono ?_
    rintro ee w3 ⟨rfl, F3, hP3⟩
    have hP := (hP1.trans hP2).trans hP3
    clear d2 hP1 hP2 hP3
    go_wp2
    refine bodyPost_end (v := .tuple #[]) (by simp [results, Try.results30, go_sem]) rfl ⟨rfl, F3, ?_⟩
    rw [HE.out, hM.out]
    exact hP
  · have hM : Hid (min f L.n = L.n) := Nat.min_eq_right (by omega)
    go_enter Try.func30, Try.ntmps30
    go_wp2_with fail
    refine (sync_post HD.out).mono ?_
    rintro ee w1 ⟨rfl, hP1⟩
    have b0 := fr_cell hP1.f hng c0
    have b2 := fr_cell hP1.f hng c2
    have b3 := fr_cell hP1.f hng c3
    have HL1 : Hid (LogAt base w1 G _ _ L) := HL.out.keep hP1.f (fun k hk hf => hd k hf hk)
    clear c0 c1 c2 c3 c4 c5 fz
    go_wp2_with fail
    refine (lay_post hP1.d HL1.out hd e L.n (by omega) hle hsz (by show n + D.ws.length + (L.n - e) < 100000; omega)).mono ?_
    rintro ee w2 ⟨rfl, F2, hP2⟩
    have hd2 := hP2.apart hd (fun k hk => (HL1.out.lo k hk).2)
    have HL2 : Hid (LogAt base w2 G _ _ L) := HL1.out.keep hP2.f (fun k hk hf => hd k hf hk)
    have d2 := fr_cell hP2.f hng b2
    clear b0 b2 b3
    go_wp2_with fail
    refine (lay_post hP2.d HL2.out hd2 L.n L.n (Nat.le_refl _) (Nat.le_refl _) hsz (by rw [lay_ws]; show n + (D.ws.length + (L.n - e)) + (L.n - L.n) < 100000; omega)).mono ?_
    rintro ee w3 ⟨rfl, F3, hP3⟩
    have hP := (hP1.trans hP2).trans hP3
    clear d2 hP1 hP2 hP3
    go_wp2
    refine bodyPost_end (v := .tuple #[]) (by simp [results, Try.results30, go_sem]) rfl ⟨rfl, F3, ?_⟩
    rw [HE.out, hM.out]
    exact hP

theorem check_nil (f s : Int) (w : World) : Calls Try.prog 29 #[.pointer none, .int .i64 f, .int .i64 s] w fun e w' => e = .returned (.int .i64 1) ∧ w' = w := by
  go_enter Try.func29, Try.ntmps29
  go_wp2
  go_ret
  exact ⟨rfl, rfl⟩
theorem check_arg (a : Addr) (f s : Int) (w : World) (h : f < 0 ∨ s < 1 ∨ 1024 < s) : Calls Try.prog 29 #[.pointer (some a), .int .i64 f, .int .i64 s] w fun e w' => e = .returned (.int .i64 1) ∧ w' = w := by
  by_cases h1 : f < 0
  · have t1 : decide (f < 0) = true := by simpa using h1
    go_enter Try.func29, Try.ntmps29
    go_wp2
    go_ret
    exact ⟨rfl, rfl⟩
  · have t1 : decide (f < 0) = false := by simpa using h1
    by_cases h2 : s < 1
    · have t2 : decide (s < 1) = true := by simpa using h2
      go_enter Try.func29, Try.ntmps29
      go_wp2
      go_ret
      exact ⟨rfl, rfl⟩
    · have t2 : decide (s < 1) = false := by simpa using h2
      have t3 : decide (s > 1024) = true := by simp; omega
      go_enter Try.func29, Try.ntmps29
      go_wp2
      go_ret
      exact ⟨rfl, rfl⟩
set_option maxHeartbeats 1000000 in
theorem check_fit {base : Nat} {F : Nat → Prop} {p : Value} {n : Nat} {D : DS} {w : World} (h : DiskAt base w F p n D) (f s : Int) (h1 : 0 ≤ f) (h2 : 1 ≤ s) (h3 : s ≤ 1024) (hf : f ≤ 9223372036854775807) :
    Calls Try.prog 29 #[p, .int .i64 f, .int .i64 s] w fun e w' => e = .returned (.int .i64 (if D.size - s < f then 64 else 0)) ∧ w' = w := by
  have hS := size_any h
  obtain ⟨g, b1, b2, v, rfl, h⟩ := h
  have hsz := h.sz
  clear h
  have t1 : decide (f < 0) = false := by simp; omega
  have t2 : decide (s < 1) = false := by simp; omega
  have t3 : decide (s > 1024) = false := by simp; omega
  by_cases hc : D.size - s < f
  · rw [if_pos hc]
    generalize D.size = z at *
    have t4 : decide (f > z - s) = true := by simpa using hc
    go_enter Try.func29, Try.ntmps29
    go_wp2_with (go_at_call 12; refine hS.mono ?_; rintro e wx ⟨rfl, hwx⟩; rw [hwx]; clear hwx wx hS)
    all_goals first
      | (go_ret; exact ⟨rfl, rfl⟩)
      | (exfalso; omega)
  · rw [if_neg hc]
    generalize D.size = z at *
    have t4 : decide (f > z - s) = false := by simpa using hc
    go_enter Try.func29, Try.ntmps29
    go_wp2_with (go_at_call 12; refine hS.mono ?_; rintro e wx ⟨rfl, hwx⟩; rw [hwx]; clear hwx wx hS)
    all_goals first
      | (go_ret; exact ⟨rfl, rfl⟩)
      | (exfalso; omega)
end Go.Proofs.Ytcjoolmlobjpbaa
