/- The pool: Pin. -/
import Derived.Test.YtkmgahembhgloaaP7K
namespace Go.Proofs.Ytkmgahembhgloaa
open Go.RowKit Go.Maps
set_option linter.unusedVariables false
set_option linter.unusedSimpArgs false

/-- How room is made. -/
inductive Made (P : PS) (D : DS) : PS → DS → Prop
  | free (h : (P.keys.length : Int) < P.size) : Made P D P D
  | went (h : ¬ ((P.keys.length : Int) < P.size)) (k : Int) (hk : Goner P k) : Made P D (P.gone k) (D.cleaned P k)
/-- Why none can be made. -/
inductive RoomErr (P : PS) : Int → Prop
  | behind (h : ¬ ((P.keys.length : Int) < P.size)) (h1 : ∀ k ∈ P.keys, mayGo P.safe (P.fr k) = false) (h2 : ∃ k ∈ P.keys, unp (P.fr k) = true) : RoomErr P 74
  | full (h : ¬ ((P.keys.length : Int) < P.size)) (h1 : ∀ k ∈ P.keys, unp (P.fr k) = false) : RoomErr P 71
/-- What makeRoom comes to. -/
inductive MROut (base : Nat) (w : World) (F G : Nat → Prop) (g : Nat) (dp : Value) (b : Nat) (blk : Int → Nat) (cv : Int → Value) (n : Nat) (P : PS) (D : DS) (e : Ending) (w' : World) : Prop
  | ok (P1 : PS) (D1 : DS) (he : e = .returned (.int .i64 0)) (hm : Made P D P1 D1) (hP : PoolIn base w' F g dp b blk cv P1) (G' : Nat → Prop) (hD : DiskAt base w' G' dp n D1) (hf : Fr w w' (fun i => F i ∨ G i)) (ho : ∀ i, G' i → G i ∨ w.heap.size ≤ i)
  | err (c : Int) (he : e = .returned (.int .i64 c)) (hc : RoomErr P c) (hb : Below w.heap.size w w')
theorem room_any {base : Nat} {w : World} {F G : Nat → Prop} {g b n : Nat} {dp : Value} {blk : Int → Nat} {cv : Int → Value} {P : PS} {D : DS} (h : PoolIn base w F g dp b blk cv P) (hD : DiskAt base w G dp n D) (hdis : ∀ i, F i → ¬ G i) (hok : POk P) (hfit : P.first + 16 * P.pages ≤ D.size) (hcnt : n + D.ws.length + 16 < 900000) :
    Calls Try.prog 65 #[.pointer (some ⟨g, 0, none⟩)] w fun e w' => MROut base w F G g dp b blk cv n P D e w' := by
  by_cases hlt : (P.keys.length : Int) < P.size
  · refine (room_free h hok hlt).mono ?_
    rintro e w' ⟨he, hb⟩
    exact .ok P D he (.free hlt) (h.keepB hb) G (hD.keepB hb) (Fr.of_below hb) (fun i hi => Or.inl hi)
  · refine (room_full h hD hdis hok hfit hlt hcnt).mono ?_
    rintro e w' hR
    cases hR with
    | went k he hk hP G' hD hf ho => exact .ok _ _ he (.went hlt k hk) hP G' hD hf ho
    | behind he h1 h2 hb => exact .err 74 he (.behind hlt h1 h2) hb
    | full he h1 hb => exact .err 71 he (.full hlt h1) hb
theorem POk.gone {P : PS} (h : POk P) {k : Int} (hk : k ∈ P.keys) : POk (P.gone k) := by
  have hl := len_delS h.rise.nodup hk
  refine ⟨rise_delS h.rise, fun j hj => h.rng j ((mem_delS _ _ _).1 hj).2, h.first, h.pages, h.size, ?_, h.safe, h.uses, fun j hj => h.fr j ((mem_delS _ _ _).1 hj).2, fun i hi j hj => h.apart i ((mem_delS _ _ _).1 hi).2 j ((mem_delS _ _ _).1 hj).2⟩
  show ((delS k P.keys).length : Int) ≤ P.size
  have := h.len
  omega
theorem cleaned_size (D : DS) (P : PS) (k : Int) : (D.cleaned P k).size = D.size := by unfold DS.cleaned; split <;> rfl
theorem cleaned_ws (D : DS) (P : PS) (k : Int) : (D.cleaned P k).ws.length ≤ D.ws.length + 16 := by
  unfold DS.cleaned; split
  · show (D.ws ++ putW _ _ _ 16).length ≤ _; rw [List.length_append, putW_len]; omega
  · omega
/-- What holds of what room was made in. -/
structure MadeOk (P : PS) (D : DS) (P1 : PS) (D1 : DS) : Prop where
  ok : POk P1
  first : P1.first = P.first
  pages : P1.pages = P.pages
  size : P1.size = P.size
  uses : P1.uses = P.uses
  safe : P1.safe = P.safe
  sub : ∀ k ∈ P1.keys, k ∈ P.keys
  lt : (P1.keys.length : Int) < P1.size
  dsize : D1.size = D.size
  ws : D1.ws.length ≤ D.ws.length + 16
theorem Made.ok {P : PS} {D : DS} {P1 : PS} {D1 : DS} (h : Made P D P1 D1) (hok : POk P) : MadeOk P D P1 D1 := by
  cases h with
  | free h => exact ⟨hok, rfl, rfl, rfl, rfl, rfl, fun k hk => hk, h, rfl, by omega⟩
  | went h k hk => exact ⟨hok.gone hk.mem, rfl, rfl, rfl, rfl, rfl, fun j hj => ((mem_delS _ _ _).1 hj).2, by
      show ((delS k P.keys).length : Int) < P.size
      have := len_delS hok.rise.nodup hk.mem
      have := hok.len
      omega, cleaned_size _ _ _, cleaned_ws _ _ _⟩
theorem POk.come {P : PS} (h : POk P) {k : Int} (hk : k ∉ P.keys) (hl : (P.keys.length : Int) < P.size) (hr : 0 ≤ k ∧ k < P.pages) {f0 f : FS} (h1 : f.bytes.length = 2048) (h2 : 0 ≤ f.pins ∧ f.pins ≤ P.uses + 1) (h3 : 0 ≤ f.mark ∧ f.mark ≤ 18446744073709551615) (hu : P.uses < 1000000) : POk ((P.add k f0).touch k f) := by
  have hus := h.uses
  have hm : ∀ j, j ∈ insS k P.keys → j ≠ k → j ∈ P.keys := fun j hj e => by rcases (mem_insS _ _ _).1 hj with h | h; exact absurd h e; exact h
  have hfr : ∀ j, ((P.add k f0).touch k f).fr j = if j = k then { f with used := P.uses + 1 } else P.fr j := fun j => by
    show updA (updA P.fr k f0) k { f with used := P.uses + 1 } j = _
    rw [updA_twice]; rfl
  refine ⟨rise_insS h.rise hk, fun j hj => ?_, h.first, h.pages, h.size, ?_, h.safe, by show 0 ≤ P.uses + 1 ∧ P.uses + 1 ≤ _; omega, fun j hj => ?_, fun i hi j hj e => ?_⟩
  · by_cases e : j = k
    · subst e; exact hr
    · exact h.rng j (hm j hj e)
  · show ((insS k P.keys).length : Int) ≤ P.size
    rw [len_insS]; omega
  · show FOk (P.uses + 1) _
    rw [hfr j]
    split
    · exact ⟨h1, h2, h3, by show 0 ≤ P.uses + 1 ∧ P.uses + 1 ≤ P.uses + 1; omega⟩
    · rename_i e
      obtain ⟨a, b, c, d⟩ := h.fr j (hm j hj e)
      exact ⟨a, by omega, c, by omega⟩
  · rw [hfr i, hfr j] at e
    by_cases e1 : i = k
    · by_cases e2 : j = k
      · rw [e1, e2]
      · rw [if_pos e1, if_neg e2] at e
        have := (h.fr j (hm j hj e2)).used
        replace e : P.uses + 1 = (P.fr j).used := e
        omega
    · by_cases e2 : j = k
      · rw [if_neg e1, if_pos e2] at e
        have := (h.fr i (hm i hi e1)).used
        replace e : (P.fr i).used = P.uses + 1 := e
        omega
      · rw [if_neg e1, if_neg e2] at e
        exact h.apart i (hm i hi e1) j (hm j hj e2) e
/-- What Pin makes of the pool and the disk, and what it tells. -/
inductive PinTo (P : PS) (D : DS) (k : Int) : PS → DS → List UInt8 → Prop
  | held (hk : k ∈ P.keys) : PinTo P D k (P.touch k { P.fr k with pins := (P.fr k).pins + 1 }) D (P.fr k).bytes
  | came (hk : k ∉ P.keys) (P1 : PS) (D1 : DS) (hm : Made P D P1 D1) : PinTo P D k ((P1.add k ⟨getN D1.now (P.first + 16 * k) 16, 0, false, 0, 0⟩).touch k ⟨getN D1.now (P.first + 16 * k) 16, 1, false, 0, 0⟩) D1 (getN D1.now (P.first + 16 * k) 16)
/-- What Pin of a page that there is comes to. -/
inductive PinOut (base : Nat) (w : World) (F G : Nat → Prop) (g : Nat) (dp : Value) (b n : Nat) (P : PS) (D : DS) (k : Int) (e : Ending) (w' : World) : Prop
  | ok (P' : PS) (D' : DS) (bs : List UInt8) (ht : PinTo P D k P' D' bs) (v : Value) (he : e = .returned (.tuple #[v, .int .i64 0])) (hv : OwnB w.heap.size w' v bs) (F' G' : Nat → Prop) (blk' : Int → Nat) (cv' : Int → Value) (hP : PoolIn base w' F' g dp b blk' cv' P') (hD : DiskAt base w' G' dp n D') (hf : Fr w w' (fun i => F i ∨ G i)) (hF : ∀ i, F' i → F i ∨ w.heap.size ≤ i) (hG : ∀ i, G' i → G i ∨ w.heap.size ≤ i) (hdis : ∀ i, F' i → ¬ G' i) (hn : ∀ c, v.ownBlock = some c → ¬ F' c ∧ ¬ G' c)
  | err (c : Int) (he : e = .returned (.tuple #[.slice none 0 0, .int .i64 c])) (hk : k ∉ P.keys) (hc : RoomErr P c) (hb : Below w.heap.size w w')
theorem pin_nil (k : Int) (w : World) :
    Calls Try.prog 54 #[.pointer none, .int .i64 k] w fun e w' => e = .returned (.tuple #[.slice none 0 0, .int .i64 1]) ∧ w' = w := by
  go_enter Try.func54, Try.ntmps54
  go_wp2
  exact bodyPost_ret (v := .tuple #[.slice none 0 0, .int .i64 1]) (by simp [results, Try.results54, go_sem]) rfl ⟨rfl, rfl⟩
theorem pin_range {base : Nat} {w : World} {F : Nat → Prop} {g b : Nat} {dp : Value} {blk : Int → Nat} {cv : Int → Value} {P : PS} (h : PoolIn base w F g dp b blk cv P) {k : Int} (hno : k < 0 ∨ P.pages ≤ k) :
    Calls Try.prog 54 #[.pointer (some ⟨g, 0, none⟩), .int .i64 k] w fun e w' => e = .returned (.tuple #[.slice none 0 0, .int .i64 73]) ∧ w' = w := by
  have c2 := h.cells.c2
  clear h
  generalize P.pages = Z at *
  by_cases h0 : k < 0
  · have t1 : decide (k < 0) = true := by simpa using h0
    go_enter Try.func54, Try.ntmps54
    go_wp2
    exact bodyPost_ret (v := .tuple #[.slice none 0 0, .int .i64 73]) (by simp [results, Try.results54, go_sem]) rfl ⟨rfl, rfl⟩
  · have t1 : decide (k < 0) = false := by simpa using h0
    have t2 : decide (k ≥ Z) = true := by simp; omega
    go_enter Try.func54, Try.ntmps54
    go_wp2
    exact bodyPost_ret (v := .tuple #[.slice none 0 0, .int .i64 73]) (by simp [results, Try.results54, go_sem]) rfl ⟨rfl, rfl⟩
set_option maxRecDepth 20000 in
set_option maxHeartbeats 1000000 in
theorem pin_held {base : Nat} {w : World} {F G : Nat → Prop} {g b n : Nat} {dp : Value} {blk : Int → Nat} {cv : Int → Value} {P : PS} {D : DS} (h : PoolIn base w F g dp b blk cv P) (hD : DiskAt base w G dp n D) (hdis : ∀ i, F i → ¬ G i) (hok : POk P) {k : Int} (hk : k ∈ P.keys) :
    Calls Try.prog 54 #[.pointer (some ⟨g, 0, none⟩), .int .i64 k] w fun e w' => PinOut base w F G g dp b n P D k e w' := by
  have hkr := hok.rng k hk
  have hpg := hok.pages
  have hfk := (hok.fr k hk).pins
  have hlen := (hok.fr k hk).len
  have hu := hok.uses
  have c2 := h.cells.c2
  have c4 := h.cells.c4
  have d1 := (h.cellsF hk).c1
  have fz := (h.cellsF hk).f
  have hl := h.hm.look_ok (i := k) (by omega)
  simp only [hk, if_true, decide_true, ptr] at hl
  have t1 : decide (k < 0) = false := by simp; omega
  have t2 : decide (k ≥ P.pages) = false := by simp; omega
  have HP : Hid (PoolIn base w F g dp b blk cv P) := h
  have HD : Hid (DiskAt base w G dp n D) := hD
  have hBF := h.ff k hk
  clear h hok hD
  generalize hX : (P.fr k).pins = X at *
  generalize hZ : P.pages = Z at *
  go_enter Try.func54, Try.ntmps54
  go_wp2_with fail
  refine (use_any (HP.out.storeF hk 1 (.int .i64 (X + 1)) { P.fr k with pins := X + 1 } rfl rfl) hu hk).mono ?_
  rintro e w1 ⟨rfl, hP1, hf1⟩
  have hP2 : PoolIn base w1 F g dp b blk cv (P.touch k { P.fr k with pins := X + 1 }) := by
    unfold PS.touch
    simp only [updA_twice, updA_same] at hP1
    exact hP1
  have hf2 : Fr w w1 F := ((fr_set _ _ _ _).mono (fun i hi => hi ▸ hBF)).trans hf1 (fun i hi => Or.inl hi)
  have q0 := (hP2.cellsF hk).c0
  have hby := hP2.hc k hk
  have hfk2 : ((P.touch k { P.fr k with pins := X + 1 }).fr k).bytes = (P.fr k).bytes := by unfold PS.touch; simp only [updA_same]
  rw [hfk2] at hby
  have hs1 := hf2.size
  have HC : Hid (Calls Try.prog 68 #[cv k] w1 fun e w' => ∃ v', e = .returned v' ∧ OwnB w.heap.size w' v' (P.fr k).bytes ∧ (∀ c, v'.ownBlock = some c → w1.heap.size ≤ c) ∧ Below w1.heap.size w1 w') := clone_bytes w.heap.size (cv k) (P.fr k).bytes w1 hby.toBytes (by omega) (by omega) hs1
  have HP2 : Hid (PoolIn base w1 F g dp b blk cv (P.touch k { P.fr k with pins := X + 1 })) := hP2
  have HD2 : Hid (DiskAt base w1 G dp n D) := HD.out.keep hf2 (fun i hg hf => hdis i hf hg)
  clear hP1 hP2 hby hfk2 hf1 c2 c4 d1 fz hl
  obtain ⟨CV, hCV⟩ : ∃ CV, cv k = CV := ⟨_, rfl⟩
  rw [hCV] at q0 HC
  obtain ⟨ao, cap, hcv, _⟩ := (HP2.out.hc k hk).toBytes.form
  rw [hCV] at hcv
  generalize ((P.touch k { P.fr k with pins := X + 1 }).fr k).bytes.length = LL at hcv
  subst hcv
  go_wp2_with fail
  refine HC.out.mono ?_
  rintro e w2 ⟨v', rfl, ho, hn, hb2⟩
  have hO : PinOut base w F G g dp b n P D k (.returned (.tuple #[v', .int .i64 0])) w2 := by
    refine .ok _ _ _ (.held hk) v' rfl ho F G blk cv (by rw [hX]; exact HP2.out.keepB hb2) (HD2.out.keepB hb2) (((hf2.mono (fun i hi => Or.inl hi)).trans (Fr.of_below (F := fun _ => False) hb2) (fun i hi => hi.elim))) (fun i hi => Or.inl hi) (fun i hi => Or.inl hi) hdis (fun c hc => ?_)
    have h1 := hn c hc
    exact ⟨fun h => by have := (HP2.out.lo c h).2; omega, fun h => by have := (HD2.out.lo c h).2; omega⟩
  clear HC HP2 HD2 HP HD ho hn q0
  go_wp2
  exact bodyPost_ret (v := .tuple #[v', .int .i64 0]) (by simp [results, Try.results54, go_sem]) rfl hO
end Go.Proofs.Ytkmgahembhgloaa
