/- The pool: sector, clean, load. -/
import Derived.Test.YtkmgahembhgloaaP7C
namespace Go.Proofs.Ytkmgahembhgloaa
open Go.RowKit Go.Maps
set_option linter.unusedVariables false
set_option linter.unusedSimpArgs false

/-- A sector of a page. -/
def secP (bs : List UInt8) (k : Nat) : List UInt8 := (bs.drop (128 * k)).take 128
theorem secP_len {bs : List UInt8} (h : bs.length = 2048) {k : Nat} (hk : k < 16) : (secP bs k).length = 128 := by
  unfold secP; rw [List.length_take, List.length_drop]; omega
/-- What the sectors hold, k sectors of a page laid from s on. -/
def putN (now : Int → List UInt8) (s : Int) (bs : List UInt8) (k : Nat) : Int → List UInt8 := fun j => if s ≤ j ∧ j < s + k then secP bs (j - s).toNat else now j
def putW (s : Int) (bs : List UInt8) (safe : Nat) (k : Nat) : List W3 := (List.range k).map (fun (j : Nat) => ⟨s + (j : Int), secP bs j, (safe : Int)⟩)
theorem putW_len (s : Int) (bs : List UInt8) (safe k : Nat) : (putW s bs safe k).length = k := by simp [putW]
theorem putN_zero (now : Int → List UInt8) (s : Int) (bs : List UInt8) : putN now s bs 0 = now := by
  funext j; unfold putN; rw [if_neg (by omega)]
theorem putN_succ (now : Int → List UInt8) (s : Int) (bs : List UInt8) (k : Nat) : upd (putN now s bs k) (s + k) (secP bs k) = putN now s bs (k + 1) := by
  funext j
  unfold upd putN
  by_cases e : j = s + k
  · subst e
    rw [if_pos rfl, if_pos (by omega)]
    congr 1; omega
  · rw [if_neg e]
    by_cases h : s ≤ j ∧ j < s + k
    · rw [if_pos h, if_pos (by omega)]
    · rw [if_neg h, if_neg (by omega)]
theorem putW_succ (s : Int) (bs : List UInt8) (safe k : Nat) : putW s bs safe (k + 1) = putW s bs safe k ++ [⟨s + k, secP bs k, safe⟩] := by
  simp [putW, List.range_succ]
/-- A disk, a page laid on it from s on. -/
def DS.page (D : DS) (s : Int) (bs : List UInt8) (k : Nat) : DS := { D with now := putN D.now s bs k, ws := D.ws ++ putW s bs D.safe k }
theorem page_zero (D : DS) (s : Int) (bs : List UInt8) : D.page s bs 0 = D := by
  unfold DS.page; rw [putN_zero]; simp [putW]
/-- A page as it is on a disk, k sectors of it. -/
def getN (now : Int → List UInt8) (s : Int) (k : Nat) : List UInt8 := (List.range k).flatMap (fun (j : Nat) => now (s + (j : Int)))
theorem getN_succ (now : Int → List UInt8) (s : Int) (k : Nat) : getN now s (k + 1) = getN now s k ++ now (s + k) := by
  simp [getN, List.range_succ]
theorem getN_len {now : Int → List UInt8} (h : ∀ i, (now i).length = 128) (s : Int) (k : Nat) : (getN now s k).length = 128 * k := by
  induction k with
  | zero => rfl
  | succ k ih => rw [getN_succ, List.length_append, ih, h]; omega

theorem sector_any {base : Nat} {w : World} {F : Nat → Prop} {g b : Nat} {dp : Value} {blk : Int → Nat} {cv : Int → Value} {P : PS} (h : PoolIn base w F g dp b blk cv P) (hf : 0 ≤ P.first ∧ P.first ≤ 4096) (p i : Int) (hp : 0 ≤ p ∧ p ≤ 256) (hi : 0 ≤ i ∧ i < 16) :
    Calls Try.prog 77 #[.pointer (some ⟨g, 0, none⟩), .int .i64 p, .int .i64 i] w fun e w' => e = .returned (.int .i64 (P.first + p * 16 + i)) ∧ w' = w := by
  have p1 := h.cells.c1
  clear h
  generalize P.first = S at *
  go_enter Try.func77, Try.ntmps77
  go_wp2
  go_ret
  exact ⟨rfl, rfl⟩
/-- Where the writing stands. -/
structure CleanMid (base : Nat) (w wr : World) (G G' : Nat → Prop) (dp : Value) (n : Nat) (D : DS) (s : Int) (bs : List UInt8) (k : Nat) : Prop where
  d : DiskAt base wr G' dp n (D.page s bs k)
  f : Fr w wr G
  o : ∀ i, G' i → G i ∨ w.heap.size ≤ i
theorem full_secP {bs : List UInt8} (h : bs.length = 2048) {k : Nat} (hk : k < 16) : full (secP bs k) = secP bs k := full_id (secP_len h hk)
/-- One sector more. -/
theorem clean_step {base : Nat} {w wr : World} {G G' : Nat → Prop} {dp : Value} {n : Nat} {D : DS} {s : Int} {bs : List UInt8} {k : Nat} (h : CleanMid base w wr G G' dp n D s bs k) (hk : k < 16) (hs : 0 ≤ s ∧ s + 16 ≤ D.size) (hbs : bs.length = 2048) (hcnt : n + D.ws.length + 16 < 900000) (vb : Value) (lo hi : Nat) (hlo : lo = 128 * k) (hhi : hi = lo + 128) (x : Int) (hx : x = s + k) (wx : World) (hwx : wx = wr ∨ wx = wr.drew) (hB : Bytes wr vb ((bs.drop lo).take (hi - lo))) :
    Calls Try.prog 24 #[dp, .int .i64 x, vb] wx fun e w' => e = .returned (.int .i64 0) ∧ ∃ G1, Hid (CleanMid base w w' G G1 dp n D s bs (k + 1)) ∧ Fr wr w' G' := by
  have hb : Below wr.heap.size wr wx := by
    rcases hwx with rfl | rfl
    · exact Below.refl _ _
    · exact (Below.refl _ _).drew
  subst hlo hhi hx
  have e0 : (bs.drop (128 * k)).take (128 * k + 128 - 128 * k) = secP bs k := by unfold secP; congr 1; omega
  rw [e0] at hB
  refine (write_any (h.d.keepB hb) (s + k) (by show _ ∧ _ < D.size; omega) vb _ (hB.keep hb) (by rw [secP_len hbs hk]; omega) (by show n + (D.ws ++ putW s bs D.safe k).length < 900000; rw [List.length_append, putW_len]; omega)).mono ?_
  rintro e w' ⟨he, G1, hD, hf, ho⟩
  have hf' : Fr wr w' G' := (Fr.of_below hb).trans hf (fun i hi => Or.inl hi)
  rw [full_secP hbs hk] at hD
  refine ⟨he, G1, ⟨?_, h.f.trans hf' h.o, fun i hi => ?_⟩, hf'⟩
  · have e1 : upd (putN D.now s bs k) (s + k) (secP bs k) = putN D.now s bs (k + 1) := putN_succ _ _ _ _
    have e2 : (D.ws ++ putW s bs D.safe k) ++ [⟨s + k, secP bs k, D.safe⟩] = D.ws ++ putW s bs D.safe (k + 1) := by rw [putW_succ, List.append_assoc]
    show DiskAt base w' G1 dp n { D with now := putN D.now s bs (k + 1), ws := D.ws ++ putW s bs D.safe (k + 1) }
    rw [← e1, ← e2]
    exact hD
  · rcases ho i hi with h1 | h1
    · exact h.o i h1
    · right; have := h.f.size; have := hb.size; omega
theorem clean_not {base : Nat} {w : World} {F : Nat → Prop} {g b : Nat} {dp : Value} {blk : Int → Nat} {cv : Int → Value} {P : PS} (h : PoolIn base w F g dp b blk cv P) {k : Int} (hk : k ∈ P.keys) (hkr : 0 ≤ k ∧ k < 256) (hd : (P.fr k).dirty = false) :
    Calls Try.prog 75 #[.pointer (some ⟨g, 0, none⟩), .int .i64 k] w fun e w' => e = .returned (.tuple #[]) ∧ w' = w := by
  have p4 := h.cells.c4
  have c2 := (h.cellsF hk).c2
  rw [hd] at c2
  have hl := h.hm.look (i := k) (by omega) hk
  clear h
  go_enter Try.func75, Try.ntmps75
  go_wp2
  exact bodyPost_ret (v := .tuple #[]) (by simp [results, Try.results75, go_sem]) rfl ⟨rfl, rfl⟩
set_option maxRecDepth 20000 in
set_option maxHeartbeats 8000000 in
theorem clean_dirty {base : Nat} {w : World} {F G : Nat → Prop} {g b n : Nat} {dp : Value} {blk : Int → Nat} {cv : Int → Value} {P : PS} {D : DS} (h : PoolIn base w F g dp b blk cv P) (hD : DiskAt base w G dp n D) (hdis : ∀ i, F i → ¬ G i) (hok : POk P) (hfit : P.first + 16 * P.pages ≤ D.size) {k : Int} (hk : k ∈ P.keys) (hd : (P.fr k).dirty = true) (hcnt : n + D.ws.length + 16 < 900000) :
    Calls Try.prog 75 #[.pointer (some ⟨g, 0, none⟩), .int .i64 k] w fun e w' => e = .returned (.tuple #[]) ∧ PoolIn base w' F g dp b blk cv { P with fr := updA P.fr k { P.fr k with dirty := false } } ∧ ∃ G', DiskAt base w' G' dp n (D.page (P.first + 16 * k) (P.fr k).bytes 16) ∧ Fr w w' (fun i => F i ∨ G i) ∧ ∀ i, G' i → G i ∨ w.heap.size ≤ i := by
  obtain ⟨dg, _, _, _, rfl, _⟩ := id hD
  have p4 := h.cells.c4
  have c2 := (h.cellsF hk).c2
  have fzB := (h.cellsF hk).f
  rw [hd] at c2
  have hkr := hok.rng k hk
  have hpg := hok.pages
  have hfi := hok.first
  have hbl := (hok.fr k hk).len
  have hl := h.hm.look (i := k) (by omega) hk
  have HP : Hid (PoolIn base w F g (.pointer (some ⟨dg, 0, none⟩)) b blk cv P) := h
  have HD : Hid (DiskAt base w G (.pointer (some ⟨dg, 0, none⟩)) n D) := hD
  have hgF : F g := h.fg
  have hBF : F (blk k) := h.ff k hk
  obtain ⟨ao, cap, hcv, hcap, hcells⟩ := (h.hc k hk).toBytes.form
  rw [hbl] at hcv hcap hcells
  obtain ⟨af, rfl, _⟩ := hcells (by omega)
  clear hcells h hD hok
  generalize hB : blk k = B at *
  generalize hS : P.first + 16 * k = S at *
  go_enter Try.func75, Try.ntmps75
  go_wp2
  go_loopw [17] (fun i wr => ∃ (m : Nat) (G' : Nat → Prop), m ≤ 16 ∧ i = .int .i64 m ∧ Hid (CleanMid base w wr G G' (.pointer (some ⟨dg, 0, none⟩)) n D S (P.fr k).bytes m)) (fun i _ => 16 - (intOf i).toNat)
  case atStart => exact ⟨0, G, by omega, rfl, ⟨by rw [page_zero]; exact HD.out, Fr.refl _ _, fun i hi => Or.inl hi⟩⟩
  case round =>
    obtain ⟨m, G', hm, rfl, HM⟩ := hrel
    have hPr := HP.out.keep HM.out.f (fun i hi hg => hdis i hi hg)
    have c0 := hPr.cells.c0
    have cf0 := (hPr.cellsF hk).c0
    have cf2 := (hPr.cellsF hk).c2
    have fzr := (hPr.cellsF hk).f
    rw [hB] at cf0 cf2 fzr
    rw [hcv] at cf0
    have HBy : Hid (Bytes wr (.slice (some af) 2048 cap) (P.fr k).bytes) := by
      have := (hPr.hc k hk).toBytes
      rw [hcv] at this
      exact this
    have hdj : ∀ i, F i → ¬ G' i := fun i hi hg => by
      rcases HM.out.o i hg with h | h
      · exact hdis i hi h
      · have := (HP.out.lo i hi).2; omega
    have hngB : ¬ G' B := hdj B hBF
    have hngg : ¬ G' g := hdj g hgF
    by_cases hlt : m < 16
    · have HSec : Hid (∀ wx, (wx = wr ∨ wx = wr.drew) → Calls Try.prog 77 #[.pointer (some ⟨g, 0, none⟩), .int .i64 k, .int .i64 m] wx fun e w' => e = .returned (.int .i64 (P.first + k * 16 + m)) ∧ w' = wx) := fun wx hwx => by
        have hb : Below wr.heap.size wr wx := by
          rcases hwx with rfl | rfl
          · exact Below.refl _ _
          · exact (Below.refl _ _).drew
        exact sector_any (hPr.keepB hb) hfi k m (by omega) (by omega)
      have HW : Hid (∀ vb lo hi, lo = 128 * m → hi = lo + 128 → ∀ x, x = S + m → ∀ wx, (wx = wr ∨ wx = wr.drew) → Bytes wr vb (((P.fr k).bytes.drop lo).take (hi - lo)) → Calls Try.prog 24 #[.pointer (some ⟨dg, 0, none⟩), .int .i64 x, vb] wx fun e w' => e = .returned (.int .i64 0) ∧ ∃ G1, Hid (CleanMid base w w' G G1 (.pointer (some ⟨dg, 0, none⟩)) n D S (P.fr k).bytes (m + 1)) ∧ Fr wr w' G') := fun vb lo hi hlo hhi x hx wx hwx hB => clean_step HM.out hlt (by omega) hbl hcnt vb lo hi hlo hhi x hx wx hwx hB
      clear hPr
      have Hbl : Hid ((P.fr k).bytes.length = 2048) := hbl
      clear hbl
      obtain ⟨lo, hlo⟩ : ∃ lo : Nat, (m : Int) * 128 = (lo : Int) := ⟨m * 128, by omega⟩
      obtain ⟨m1, hM1⟩ : ∃ m1 : Nat, (m : Int) + 1 = (m1 : Int) := ⟨m + 1, by omega⟩
      obtain ⟨hi, hhi⟩ : ∃ hi : Nat, (m1 : Int) * 128 = (hi : Int) := ⟨m1 * 128, by omega⟩
      have hcap' : ¬ ((cap : Int) = ((lo : Nat) : Int)) := by omega
      have hcapN : ¬ (cap = lo) := by omega
      have hw1 : IntKind.i64.wrap ((m : Int) * 128) = lo := by rw [IntKind.wrap_i64]; omega
      have hw2 : IntKind.i64.wrap ((m : Int) + 1) = m1 := by rw [IntKind.wrap_i64]; omega
      have hw3 : IntKind.i64.wrap ((m1 : Int) * 128) = hi := by rw [IntKind.wrap_i64]; omega
      have hw4 : IntKind.i64.wrap (lo : Int) = lo := by rw [IntKind.wrap_i64]; omega
      have hw5 : IntKind.i64.wrap (hi : Int) = hi := by rw [IntKind.wrap_i64]; omega
      have hw6 : IntKind.i64.wrap (m1 : Int) = m1 := by rw [IntKind.wrap_i64]; omega
      have hll : lo ≤ hi := by omega
      have hhc : hi ≤ cap := by omega
      go_wp2
      go_region_held_law (fun w' => w'.cell? ⟨g, 0, none⟩ = some (.pointer (some ⟨dg, 0, none⟩)) ∧ w'.cell? ⟨B, 0, none⟩ = some (.slice (some af) 2048 cap)) (first | exact ⟨c0, cf0⟩ | exact ⟨fr_cell hf1 hngg c0, fr_cell hf1 hngB cf0⟩)
        (first
          | (go_at_call 77; refine (HSec.out _ (by first | exact Or.inl rfl | exact Or.inr rfl)).mono ?_; rintro e wy ⟨rfl, hwy⟩; rw [hwy]; clear hwy wy)
          | (go_at_call 24; refine (HW.out _ lo hi (by omega) (by omega) _ (by omega) _ (by first | exact Or.inl rfl | exact Or.inr rfl) (HBy.out.part Hbl.out (by omega) (by omega) (Or.inl rfl))).mono ?_; rintro e w1 ⟨rfl, G1, hm1, hf1⟩))
      go_wp2
      go_roundw
      case rel => exact ⟨m + 1, G1, by omega, by first | go_num | (congr 1; omega), hm1⟩
      case measure => simp [intOf]; omega
    · obtain rfl : m = 16 := by omega
      have HPr : Hid (PoolIn base wr F g (.pointer (some ⟨dg, 0, none⟩)) b blk cv P) := hPr
      clear hPr
      go_wp2
      refine bodyPost_end (v := .tuple #[]) (by simp [results, Try.results75, go_sem]) rfl ⟨rfl, ?_, G', ?_, ?_, HM.out.o⟩
      · have h1 := HPr.out
        subst hB
        have h2 := h1.turnF hk (v' := cv k) (f' := { P.fr k with dirty := false }) (store_row (o := 2) (u := .bool false) (h1.hf k hk)) (fr_set _ _ _ _) (own_of_block (h1.hc k hk) (fun c hc => (fr_set _ _ _ _).block c (h1.lo c (h1.fc k hk c hc)).2 (fun e => (h1.ne hk).2.2 k hk (by rw [hc, e])))) (h1.fc k hk)
        have e : updA cv k (cv k) = cv := by funext j; unfold updA; split <;> simp_all
        rw [e] at h2
        exact h2
      · exact HM.out.d.keep (fr_set _ _ _ _) (fun i hi e => hngB (e ▸ hi))
      · exact (HM.out.f.mono (fun i hi => Or.inr hi)).trans (fr_set _ _ _ _) (fun i hi => Or.inl (Or.inl (hi ▸ hBF)))
end Go.Proofs.Ytkmgahembhgloaa
