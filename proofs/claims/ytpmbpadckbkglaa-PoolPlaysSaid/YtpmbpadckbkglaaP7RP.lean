/- Both pools together; what Pin comes to is one. -/
import Derived.Test.YtpmbpadckbkglaaP7RN
import Derived.Test.YtpmbpadckbkglaaP7S
import Derived.Laws.IdiomStrings
import Derived.Lib.Strings
namespace Go.Proofs.Ytpmbpadckbkglaa
open Go.RowKit Go.Maps
set_option linter.unusedVariables false
set_option linter.unusedSimpArgs false

theorem conv_str7 {w : World} {tv : Value} {xs : List UInt8} (h : Bytes w tv xs) : (convert 49 9 tv).run Try.prog w = .ok (.string ⟨xs.toArray⟩) w := by
  rcases h with ⟨rfl, rfl⟩ | ⟨a, cap, rfl, hc, hb⟩
  · rw [run_convert_bytes_string w _ _ _ none 0 0 Try.underlying49 Try.underlying5 Try.underlying9]; rfl
  · exact run_convert_bytes_back w 49 9 5 a cap xs Try.underlying49 Try.underlying5 Try.underlying9 hb
set_option maxRecDepth 20000 in
theorem same7 (v1 v2 : Value) (xs ys : List UInt8) (w : World) (h1 : Bytes w v1 xs) (h2 : Bytes w v2 ys) :
    Calls Try.prog 17 #[v1, v2] w fun e w' => e = .returned (.bool (decide (xs = ys))) ∧ w' = w := by
  have c1 := conv_str7 h1
  have c2 := conv_str7 h2
  have l1 : (⟨xs.toArray⟩ : ByteArray).toList = xs := by rw [Lib.toList_data]
  have l2 : (⟨ys.toArray⟩ : ByteArray).toList = ys := by rw [Lib.toList_data]
  clear h1 h2
  generalize (⟨xs.toArray⟩ : ByteArray) = a at *
  generalize (⟨ys.toArray⟩ : ByteArray) = b at *
  go_enter Try.func17, Try.ntmps17
  go_wp2
  go_ret
  refine ⟨?_, rfl⟩
  show Ending.returned (.bool _) = _
  congr 2
  by_cases h : xs = ys <;> simp [h]
theorem Goner.one {P : PS} (hok : POk P) {a b : Int} (h1 : Goner P a) (h2 : Goner P b) : a = b :=
  hok.apart a h1.mem b h2.mem (Int.le_antisymm (h1.le b h2.mem h2.may) (h2.le a h1.mem h1.may))
theorem Made.one {P : PS} {D : DS} (hok : POk P) {P1 P2 : PS} {D1 D2 : DS} (h1 : Made P D P1 D1) (h2 : Made P D P2 D2) : P1 = P2 ∧ D1 = D2 := by
  cases h1 with
  | free a =>
    cases h2 with
    | free b => exact ⟨rfl, rfl⟩
    | went b k hk => exact absurd a b
  | went a k hk =>
    cases h2 with
    | free b => exact absurd b a
    | went b j hj =>
      obtain rfl := hk.one hok hj
      exact ⟨rfl, rfl⟩
theorem PinTo.one {P : PS} {D : DS} (hok : POk P) {k : Int} {P1 P2 : PS} {D1 D2 : DS} {b1 b2 : List UInt8} (h1 : PinTo P D k P1 D1 b1) (h2 : PinTo P D k P2 D2 b2) : P1 = P2 ∧ D1 = D2 ∧ b1 = b2 := by
  cases h1 with
  | held a =>
    cases h2 with
    | held b => exact ⟨rfl, rfl, rfl⟩
    | came b P2 D2 hm => exact absurd a b
  | came a Pa Da hm =>
    cases h2 with
    | held b => exact absurd b a
    | came b Pb Db hm2 =>
      obtain ⟨rfl, rfl⟩ := hm.one hok hm2
      exact ⟨rfl, rfl, rfl⟩
theorem PinTo.noerr {P : PS} {D : DS} {k c : Int} {P1 : PS} {D1 : DS} {b1 : List UInt8} (h1 : PinTo P D k P1 D1 b1) (hk : k ∉ P.keys) (hc : RoomErr P c) : False := by
  cases h1 with
  | held a => exact hk a
  | came a Pa Da hm =>
    cases hm with
    | free a => cases hc with
      | behind b _ _ => exact b a
      | full b _ => exact b a
    | went a j hj => cases hc with
      | behind _ b _ => have := b j hj.mem; rw [hj.may] at this; cases this
      | full _ b =>
        have h3 := b j hj.mem
        have h4 := hj.may
        unfold mayGo at h4
        rw [h3] at h4; cases h4
theorem RoomErr.one {P : PS} {c d : Int} (h1 : RoomErr P c) (h2 : RoomErr P d) : c = d := by
  cases h1 with
  | behind _ _ a =>
    cases h2 with
    | behind _ _ _ => rfl
    | full _ b =>
      obtain ⟨k, hk, h3⟩ := a
      rw [b k hk] at h3; cases h3
  | full _ a =>
    cases h2 with
    | behind _ _ b =>
      obtain ⟨k, hk, h3⟩ := b
      rw [a k hk] at h3; cases h3
    | full _ _ => rfl
/-- Both pools and disks, apart from one another. -/
structure Pair7 (base : Nat) (w : World) (F G H K : Nat → Prop) (p dp : Value) (g : Nat) (dq : Value) (n : Nat) (P : PS) (D : DS) (N : Int) (L : List EV) (R : RPS) : Prop where
  a : PD base w F G p dp n P D
  r : ∃ vL, RPIn base w H g dq vL R
  d : RefAt base w K dq N [] L
  dis : ∀ i, (F i ∨ G i) → ¬ (H i ∨ K i)
  dis2 : ∀ i, H i → ¬ K i
theorem Pair7.hk {base : Nat} {w : World} {F G H K : Nat → Prop} {p dp : Value} {g : Nat} {dq : Value} {n : Nat} {P : PS} {D : DS} {N : Int} {L : List EV} {R : RPS} (h : Pair7 base w F G H K p dp g dq n P D N L R) : ∀ i, (H i ∨ K i) → base ≤ i ∧ i < w.heap.size := by
  obtain ⟨vL, hr⟩ := h.r
  intro i hi
  rcases hi with hi | hi
  · exact hr.lo i hi
  · exact h.d.lo i hi
theorem Pair7.keepF {base : Nat} {w w' : World} {F G H K X : Nat → Prop} {p dp : Value} {g : Nat} {dq : Value} {n : Nat} {P : PS} {D : DS} {N : Int} {L : List EV} {R : RPS} (h : Pair7 base w F G H K p dp g dq n P D N L R) (hf : Fr w w' X) (h1 : ∀ i, (F i ∨ G i) → ¬ X i) (h2 : ∀ i, (H i ∨ K i) → ¬ X i) : Pair7 base w' F G H K p dp g dq n P D N L R := by
  obtain ⟨vL, hr⟩ := h.r
  exact ⟨h.a.keep hf (fun i hi => h1 i (Or.inl hi)) (fun i hi => h1 i (Or.inr hi)), ⟨vL, hr.keep hf (fun i hi => h2 i (Or.inl hi))⟩, h.d.keep hf (fun i hi => h2 i (Or.inr hi)), h.dis, h.dis2⟩
theorem Pair7.keepB {base : Nat} {w w' : World} {F G H K : Nat → Prop} {p dp : Value} {g : Nat} {dq : Value} {n : Nat} {P : PS} {D : DS} {N : Int} {L : List EV} {R : RPS} (h : Pair7 base w F G H K p dp g dq n P D N L R) (hb : Below w.heap.size w w') : Pair7 base w' F G H K p dp g dq n P D N L R :=
  h.keepF (Fr.of_below (F := fun _ => False) hb) (fun _ _ => id) (fun _ _ => id)
/-- The program's side is turned. -/
theorem Pair7.turnP {base : Nat} {w w' : World} {F G H K F' G' : Nat → Prop} {p dp : Value} {g : Nat} {dq : Value} {n : Nat} {P P' : PS} {D D' : DS} {N : Int} {L : List EV} {R : RPS} (h : Pair7 base w F G H K p dp g dq n P D N L R) (h1 : PD base w' F' G' p dp n P' D') (hf : Fr w w' (fun i => F i ∨ G i)) (hF : ∀ i, F' i → F i ∨ w.heap.size ≤ i) (hG : ∀ i, G' i → G i ∨ w.heap.size ≤ i) : Pair7 base w' F' G' H K p dp g dq n P' D' N L R := by
  obtain ⟨vL, hr⟩ := h.r
  refine ⟨h1, ⟨vL, hr.keep hf (fun i hi hx => h.dis i hx (Or.inl hi))⟩, h.d.keep hf (fun i hi hx => h.dis i hx (Or.inr hi)), fun i hi hx => ?_, h.dis2⟩
  have hlt := (h.hk i hx).2
  rcases hi with hi | hi
  · rcases hF i hi with h2 | h2
    · exact h.dis i (Or.inl h2) hx
    · omega
  · rcases hG i hi with h2 | h2
    · exact h.dis i (Or.inr h2) hx
    · omega
/-- The document's side is turned. -/
theorem Pair7.turnR {base : Nat} {w w' : World} {F G H K H' K' : Nat → Prop} {p dp : Value} {g : Nat} {dq vL' : Value} {n : Nat} {P : PS} {D : DS} {N : Int} {L L' : List EV} {R R' : RPS} (h : Pair7 base w F G H K p dp g dq n P D N L R) (h1 : RPIn base w' H' g dq vL' R') (h2 : RefAt base w' K' dq N [] L') (h3 : ∀ i, H' i → ¬ K' i) (hf : Fr w w' (fun i => H i ∨ K i)) (hH : ∀ i, H' i → H i ∨ w.heap.size ≤ i) (hK : ∀ i, K' i → K i ∨ w.heap.size ≤ i) : Pair7 base w' F G H' K' p dp g dq n P D N L' R' := by
  refine ⟨h.a.keep hf (fun i hi hx => h.dis i (Or.inl hi) hx) (fun i hi hx => h.dis i (Or.inr hi) hx), ⟨vL', h1⟩, h2, fun i hi hx => ?_, h3⟩
  have hlt := (h.a.lo i hi).2
  rcases hx with hx | hx
  · rcases hH i hx with h4 | h4
    · exact h.dis i hi (Or.inl h4)
    · omega
  · rcases hK i hx with h4 | h4
    · exact h.dis i hi (Or.inr h4)
    · omega
theorem Pair7.turnT {base : Nat} {w w' : World} {F G H K : Nat → Prop} {p dp : Value} {g : Nat} {dq : Value} {n : Nat} {P : PS} {D : DS} {N : Int} {L : List EV} {R R' : RPS} (h : Pair7 base w F G H K p dp g dq n P D N L R) (ht : RTo base w H g dq R' w') : ∃ H', Pair7 base w' F G H' K p dp g dq n P D N L R' ∧ Fr w w' (fun i => H i ∨ K i) := by
  obtain ⟨H', vL', h1, hf, hH⟩ := ht
  have hd : RefAt base w' K dq N [] L := h.d.keep hf (fun i hi hx => h.dis2 i hx hi)
  refine ⟨H', h.turnR h1 hd (fun i hi hx => ?_) (hf.mono (fun i hi => Or.inl hi)) hH (fun i hi => Or.inl hi), hf.mono (fun i hi => Or.inl hi)⟩
  rcases hH i hi with h4 | h4
  · exact h.dis2 i h4 hx
  · have := (h.d.lo i hx).2; omega
theorem Pair7.belowP {base : Nat} {w w' : World} {F G H K : Nat → Prop} {p dp : Value} {g : Nat} {dq : Value} {n : Nat} {P : PS} {D : DS} {N : Int} {L : List EV} {R : RPS} (h : Pair7 base w F G H K p dp g dq n P D N L R) (hf : Fr w w' (fun i => F i ∨ G i)) : Below base w w' := hf.below h.a.base_le (fun i hi => (h.a.lo i hi).1)
theorem Pair7.belowR {base : Nat} {w w' : World} {F G H K : Nat → Prop} {p dp : Value} {g : Nat} {dq : Value} {n : Nat} {P : PS} {D : DS} {N : Int} {L : List EV} {R : RPS} (h : Pair7 base w F G H K p dp g dq n P D N L R) (hf : Fr w w' (fun i => H i ∨ K i)) : Below base w w' := hf.below h.a.base_le (fun i hi => (h.hk i hi).1)
/-- Both hold the same, and how much there is of it. -/
structure Two7 (base : Nat) (w : World) (F G H K : Nat → Prop) (p dp : Value) (g : Nat) (dq : Value) (P : PS) (D : DS) (N : Int) (L : List EV) (R : RPS) (k : Nat) : Prop where
  two : Pair7 base w F G H K p dp g dq 0 P D N L R
  rel : Rel P R
  rd : rd [] L = D.now
  size : D.size = N
  fit : P.first + 16 * P.pages ≤ N
  pg : P.pages ≤ 12
  uses : P.uses ≤ k
  ws : D.ws.length ≤ 200 * k
  ll : L.length ≤ 200 * k
/-- What Pin of the document's pool comes to, whatever the page. -/
def PinLaw : Prop := ∀ (base : Nat) (w : World) (H G : Nat → Prop) (g : Nat) (dq vL : Value) (R : RPS) (N : Int) (F L : List EV) (P : PS) (D : DS) (p : Int), RPIn base w H g dq vL R → RefAt base w G dq N F L → (∀ i, H i → ¬ G i) → Rel P R → POk P → P.first + 16 * P.pages ≤ N → rd F L = D.now → (F.length : Int) + L.length + 16 < 100000 → P.uses < 1000000 → 0 ≤ p ∧ p < P.pages →
  Calls Try.prog 25 #[.pointer (some ⟨g, 0, none⟩), .int .i64 p] w fun e w' => RPin base w H G g dq N F L P D p e w'
/-- A row that is being overwritten. -/
structure Scrub7 (w wr : World) (gb C : Nat) : Prop where
  ex : ∃ cur, wr.heap[gb]? = some (.cells cur 5 (0, 0)) ∧ cur.size = C
  f : Fr w wr (fun k => k = gb)
theorem Scrub7.start {w : World} {gb C : Nat} {cur : Array Value} (h : w.heap[gb]? = some (.cells cur 5 (0, 0))) (hc : cur.size = C) : Scrub7 w w gb C := ⟨⟨cur, h, hc⟩, Fr.refl _ _⟩
theorem Scrub7.cell {w wr : World} {gb C : Nat} (h : Scrub7 w wr gb C) {k : Nat} (hk : k < C) : ∃ u, wr.cell? ⟨gb, k, none⟩ = some u := by
  obtain ⟨cur, hc, hs⟩ := h.ex
  refine ⟨cur[k]'(by omega), ?_⟩
  rw [cell_of_row wr gb k _ _ _ hc]
  simp [hs, hk]
theorem Scrub7.frozen {w wr : World} {gb C : Nat} (h : Scrub7 w wr gb C) (k : Nat) : wr.frozen? ⟨gb, k, none⟩ = false := by
  obtain ⟨cur, hc, hs⟩ := h.ex
  exact frozen_row hc k
theorem Scrub7.step {w wr : World} {gb C : Nat} (h : Scrub7 w wr gb C) (k : Nat) (u : Value) : Scrub7 w (wr.setCell ⟨gb, k, none⟩ u) gb C := by
  obtain ⟨cur, hc, hs⟩ := h.ex
  have he := setCell_eq_setRow wr gb k _ _ _ u hc
  refine ⟨⟨_, by rw [he]; exact setRow_heap wr gb _ _ _ _ hc, by simp [hs]⟩, h.f.trans (F := fun k => k = gb) (G := fun k => k = gb) ?_ (fun _ h => Or.inl h)⟩
  rw [he]
  exact ⟨rfl, rfl, rfl, by simp, fun i _ hi => setRow_other wr gb i _ hi⟩
theorem OwnB.cells7 {base : Nat} {w : World} {v : Value} {xs : List UInt8} (h : OwnB base w v xs) (hx : 0 < xs.length) : ∃ g cap cur, v = .slice (some ⟨g, 0, none⟩) xs.length cap ∧ base ≤ g ∧ g < w.heap.size ∧ w.heap[g]? = some (.cells cur 5 (0, 0)) ∧ cur.size = cap ∧ xs.length ≤ cap := by
  obtain ⟨h1, h2⟩ := h
  rcases h2 with ⟨hv, hn⟩ | ⟨g, cap, cur, hv, hg, hh, hc, hm, hs, hx⟩
  · omega
  · exact ⟨g, cap, cur, hv, hg, (Array.getElem?_eq_some_iff.1 hh).1, hh, by omega, hc⟩
set_option maxRecDepth 100000 in
set_option maxHeartbeats 1000000 in
theorem refPin_range {base : Nat} {w : World} {H : Nat → Prop} {g : Nat} {dq vL : Value} {R : RPS} (h : RPIn base w H g dq vL R) {p : Int} (hp : p < 0 ∨ R.pages ≤ p) :
    Calls Try.prog 25 #[.pointer (some ⟨g, 0, none⟩), .int .i64 p] w fun e w' => e = .returned (.tuple #[.slice none 0 0, .int .i64 73]) ∧ w' = w := by
  have c2 := h.cells.c2
  clear h
  by_cases h1 : p < 0
  · have t1 : decide (p < 0) = true := by simpa using h1
    go_enter Try.func25, Try.ntmps25
    go_wp2
    exact bodyPost_ret (v := .tuple #[.slice none 0 0, .int .i64 73]) (by simp [results, Try.results25, go_sem]) rfl ⟨rfl, rfl⟩
  · have t1 : decide (p < 0) = false := by simpa using h1
    have t2 : decide (p ≥ R.pages) = true := by simp; omega
    go_enter Try.func25, Try.ntmps25
    go_wp2
    exact bodyPost_ret (v := .tuple #[.slice none 0 0, .int .i64 73]) (by simp [results, Try.results25, go_sem]) rfl ⟨rfl, rfl⟩
end Go.Proofs.Ytpmbpadckbkglaa
