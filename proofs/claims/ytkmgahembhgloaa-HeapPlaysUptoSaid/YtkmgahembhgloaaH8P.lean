/- Insert, Scan of a heap. -/
import Derived.Test.YtkmgahembhgloaaH8O
namespace Go.Proofs.Ytkmgahembhgloaa
open Go.RowKit Go.Maps Go.Shelf
set_option linter.unusedVariables false
set_option linter.unusedSimpArgs false

/-- What Insert tells. -/
inductive InsOut (base : Nat) (w : World) (F : Nat → Prop) (hv : Value) (n : Nat) (R : Nat → List (List UInt8)) (t : Nat) (b : List UInt8) (e : Ending) (w3 : World) : Prop
  | long (hl : b.length = 0 ∨ b.length > 1500) (he : e = .returned (.tuple #[.int .i64 0, .int .i64 81])) (h : HTo base w F hv n R (t + n) w3)
  | full (hl : ¬ (b.length = 0 ∨ b.length > 1500)) (hn : ∀ j, j < n → fitsP (R j) b.length = false) (he : e = .returned (.tuple #[.int .i64 0, .int .i64 83])) (h : HTo base w F hv n R (t + n) w3)
  | ok (hl : ¬ (b.length = 0 ∨ b.length > 1500)) (k : Nat) (hk : k < n) (hf : fitsP (R k) b.length = true) (hn : ∀ j, j < k → fitsP (R j) b.length = false) (he : e = .returned (.tuple #[.int .i64 ((k : Int) * 256 + (freeAt (R k) : Int)), .int .i64 0])) (h : HTo base w F hv n (upR R k (some (insP (R k) b))) (t + n) w3)
theorem hinsert_nil (ao : Option Addr) (m c : Nat) (w : World) : Calls Try.prog 18 #[.pointer none, .slice ao m c] w fun e w' => e = .returned (.tuple #[.int .i64 0, .int .i64 1]) ∧ Below w.heap.size w w' := by
  have hb0 : Below w.heap.size w (w.alloc (.cells #[.slice ao m c] 30)) := (Below.refl _ _).alloc (Nat.le_refl _) _
  go_enter Try.func18, Try.ntmps18
  go_wp2
  refine bodyPost_ret (v := .tuple #[.int .i64 0, .int .i64 1]) (by simp [results, Try.results18, go_sem]) rfl ?_
  exact ⟨rfl, hb0⟩
theorem hscan_nil (w : World) : Calls Try.prog 12 #[.pointer none] w fun e w' => e = .returned (.tuple #[.slice none 0 0, .int .i64 1]) ∧ w' = w := by
  go_enter Try.func12, Try.ntmps12
  go_wp2
  refine bodyPost_ret (v := .tuple #[.slice none 0 0, .int .i64 1]) (by simp [results, Try.results12, go_sem]) rfl ?_
  exact ⟨rfl, rfl⟩
theorem HTo.le {base : Nat} {w : World} {F : Nat → Prop} {hv : Value} {n : Nat} {R : Nat → List (List UInt8)} {t t' : Nat} {w3 : World} (h : HTo base w F hv n R t w3) (ht : t ≤ t') : HTo base w F hv n R t' w3 := by
  obtain ⟨F', hH, hF', hfr⟩ := h
  exact ⟨F', hH.le ht, hF', hfr⟩
theorem HTo.trans {base : Nat} {w w1 w2 : World} {F : Nat → Prop} {hv : Value} {n : Nat} {R : Nat → List (List UInt8)} {t : Nat} (h : Below w.heap.size w w1) (k : HTo base w1 F hv n R t w2) : HTo base w F hv n R t w2 := by
  obtain ⟨F', hH, hF', hfr⟩ := k
  have := h.size
  exact ⟨F', hH, fun i hi => (hF' i hi).imp (fun h => h) (fun h => by omega), (Fr.of_below h).trans hfr (fun i hi => Or.inl hi)⟩
theorem HeapAt.few {base : Nat} {w : World} {F : Nat → Prop} {hv : Value} {n : Nat} {R : Nat → List (List UInt8)} {t : Nat} (h : HeapAt base w F hv n R t) : ∀ j, j < n → (R j).length ≤ 256 := by
  obtain ⟨FP, FD, hgg, p, dp, nd, P, D, e, h⟩ := h
  exact fun j hj => (h.ok j hj).few
set_option maxHeartbeats 2000000 in
theorem hinsert_any {base : Nat} {w : World} {F : Nat → Prop} {hv : Value} {n : Nat} {R : Nat → List (List UInt8)} {t : Nat} (hH : HeapAt base w F hv n R t) (ht : t + n < 50000) (bval : Value) (bs : List UInt8) (hB : Bytes w bval bs) (hout : OutB F bval) (hbl : bs.length ≤ 140737488355328) :
    Calls Try.prog 18 #[hv, bval] w fun e w3 => InsOut base w F hv n R t bs e w3 := by
  obtain ⟨ba, bc, rfl, _, _⟩ := hB.form
  have hb0 : Below w.heap.size w (w.alloc (.cells #[.slice ba bs.length bc] 30)) := (Below.refl _ _).alloc (Nat.le_refl _) _
  have bf := Boxed.new w 30 (.slice ba bs.length bc)
  have hFl := hH.lo
  have hsz : (w.alloc (.cells #[.slice ba bs.length bc] 30)).heap.size = w.heap.size + 1 := by simp
  obtain ⟨wa, hwa⟩ : ∃ wa, w.alloc (.cells #[.slice ba bs.length bc] 30) = wa := ⟨_, rfl⟩
  rw [hwa] at hb0 bf hsz
  have hBa := hB.keep hb0
  have hil := isLong_any hBa hbl
  have hHa := hH.keepB hb0
  have HFEW : Hid (∀ j, j < n → (R j).length ≤ 256) := hH.few
  obtain ⟨hg, p, rfl, c0, c1, hFg, hn1, hn2⟩ := hH.cells
  have c1a := (hb0.cell (p := ⟨hg, 1, none⟩) (hFl hg hFg).2).trans c1
  have cb := bf.cell
  have hgl := (hFl hg hFg).2
  have HOK : Hid (∀ (k : Nat), k < n → (∀ j, j < k → fitsP (R j) bs.length = false) → ∀ e w3, InsOut base wa F (.pointer (some ⟨hg, 0, none⟩)) n R t bs e w3 → InsOut base w F (.pointer (some ⟨hg, 0, none⟩)) n R t bs e w3) := by
    intro k hk hj e w3 h
    cases h with
    | long h1 h2 h3 => exact .long h1 h2 (HTo.trans hb0 h3)
    | full h1 h2 h3 h4 => exact .full h1 h2 h3 (HTo.trans hb0 h4)
    | ok h1 k hk h2 h3 h4 h5 => exact .ok h1 k hk h2 h3 h4 (HTo.trans hb0 h5)
  by_cases hlong : bs.length = 0 ∨ bs.length > 1500
  · rw [decide_eq_true hlong] at hil
    have hE : InsOut base w F (.pointer (some ⟨hg, 0, none⟩)) n R t bs (.returned (.tuple #[.int .i64 0, .int .i64 81])) wa := .long hlong rfl (.mk F (HeapAt.le hHa (by omega)) (fun i hi => Or.inl hi) (Fr.of_below hb0))
    clear hBa hHa HOK hB bf hlong
    generalize bs.length = m at *
    go_enter Try.func18, Try.ntmps18
    go_wp2_with (go_at_call 38; refine hil.mono ?_; clear hil; rintro e wx ⟨rfl, hwx⟩; rw [hwx]; clear hwx wx)
    refine bodyPost_ret (v := .tuple #[.int .i64 0, .int .i64 81]) (by simp [results, Try.results18, go_sem]) rfl ?_
    exact hE
  · rw [decide_eq_false hlong] at hil
    have HLG : Hid (¬ (bs.length = 0 ∨ bs.length > 1500)) := hlong
    have hn15 : bs.length ≤ 1500 := by omega
    have HBA : Hid (Bytes wa (.slice ba bs.length bc) bs) := hBa
    have HBF : Hid (Boxed wa w.heap.size 30 (.slice ba bs.length bc)) := bf
    have HST : Hid (HTo base wa F (.pointer (some ⟨hg, 0, none⟩)) n R t wa) := HTo.mk F hHa (fun i hi => Or.inl hi) (Fr.refl _ _)
    have hnp : ∀ n' c, OutB F (.slice ba n' c) := fun n' c a m' c' e => hout a _ _ (by cases e; rfl)
    -- one page
    have HCALL : Hid (∀ (k : Nat) (wr : World), k < n → Hid (HTo base wa F (.pointer (some ⟨hg, 0, none⟩)) n R (t + k) wr) → ∃ wb, (wr.alloc (.cells #[.int .i64 0] 3)).alloc (.cells #[.bool false] 4) = wb ∧ Calls Try.prog 29 #[.pointer (some ⟨hg, 0, none⟩), .int .i64 k, .func (.func 39) #[] #[.pointer (some ⟨w.heap.size, 0, none⟩), .pointer (some ⟨wr.heap.size, 0, none⟩), .pointer (some ⟨wr.heap.size + 1, 0, none⟩)]] wb fun e w3 => e = .returned (.int .i64 0) ∧ w3.cell? ⟨wr.heap.size, 0, none⟩ = some (.int .i64 (freeAt (R k))) ∧ w3.cell? ⟨wr.heap.size + 1, 0, none⟩ = some (.bool (fitsP (R k) bs.length)) ∧ Hid (HTo base wa F (.pointer (some ⟨hg, 0, none⟩)) n (upR R k (if fitsP (R k) bs.length then some (insP (R k) bs) else none)) (t + (k + 1)) w3)) := by
      intro k wr hk hh
      obtain ⟨F', hH', hF', hfr⟩ := hh.out
      refine ⟨_, rfl, ?_⟩
      have hlo := hH'.lo
      have hws := hfr.size
      have b1 := (Boxed.new wr 3 (.int .i64 0)).alloc (.cells #[.bool false] 4)
      have b2 := Boxed.new (wr.alloc (.cells #[.int .i64 0] 3)) 4 (.bool false)
      rw [World.size_alloc] at b2
      have b5 := b2
      have b6 := b1
      have hbb : Below wr.heap.size wr ((wr.alloc (.cells #[.int .i64 0] 3)).alloc (.cells #[.bool false] 4)) := ((Below.refl _ _).alloc (Nat.le_refl _) _).alloc (by simp) _
      generalize ((wr.alloc (.cells #[.int .i64 0] 3)).alloc (.cells #[.bool false] 4)) = wb at *
      have l5 := b5.lt
      have hbs := hbb.size
      have hFa : ¬ F' w.heap.size := fun h => by
        rcases hF' _ h with h' | h'
        · have := (hFl _ h').2; omega
        · omega
      have hbr : Boxed wr w.heap.size 30 (.slice ba bs.length bc) := (hfr.block _ HBF.out.lt (fun h => by have := (hFl _ h).2; omega)).trans HBF.out
      have hBr : Bytes wr (.slice ba bs.length bc) bs := HBA.out.fr8 (hnp _ _) hfr
      have hnF' : ∀ a n' c', Value.slice ba bs.length bc = .slice (some a) n' c' → a.block < wa.heap.size ∧ ¬ F' a.block := fun a n' c' e => by
        have h1 := HBA.out.lt (by omega) a n' c' e
        refine ⟨h1, fun h => ?_⟩
        rcases hF' _ h with h' | h'
        · exact hout a n' c' e h'
        · omega
      refine (onPage_any (C := fun i => i = wr.heap.size ∨ i = wr.heap.size + 1) (hH'.keepB hbb) (by omega) hk 39 #[.pointer (some ⟨w.heap.size, 0, none⟩), .pointer (some ⟨wr.heap.size, 0, none⟩), .pointer (some ⟨wr.heap.size + 1, 0, none⟩)] (enters_of Try.func39 (by kernel_rfl) rfl) (fun i hi => ⟨fun h => by have := (hlo i h).2; omega, by omega⟩) (InsPost (R k) bs wr.heap.size (wr.heap.size + 1)) ?_).mono ?_
      · intro w1 b cap c hf ho hp
        have hob := World.ownsRow.lt ho b rfl
        have kp : ∀ {B : Nat} {ty : TypeId} {v : Value}, Boxed wb B ty v → ¬ F' B → Boxed w1 B ty v := fun hbx hB => (hf.block _ hbx.lt hB).trans hbx
        have n1 : ¬ F' wr.heap.size := fun h => by have := (hlo _ h).2; omega
        have n2 : ¬ F' (wr.heap.size + 1) := fun h => by have := (hlo _ h).2; omega
        refine insert1_any ho hp ⟨kp ((hbb.block _ hbr.lt).trans hbr) hFa, ⟨0, kp b6 n1⟩, ⟨false, kp b5 n2⟩, (hBr.keep hbb).fr8 (fun a n' c' e => (hnF' a n' c' e).2) hf, ⟨by omega, by omega, by omega, by omega, by omega⟩, fun a n' c' e => by have := (hnF' a n' c' e).1; omega⟩ hn15
      · rintro e w3 ⟨o, w1, w2, F1, F'', he, h1', hp, h2, hF1, hH'', hF'', hfr', hF2⟩
        obtain ⟨hp1, hp2, ho⟩ := hp
        have m1 : ¬ F1 wr.heap.size := fun h => by
          rcases (hF1 _ h).2 with h' | h'
          · have := (hlo _ h').2; omega
          · omega
        have m2 : ¬ F1 (wr.heap.size + 1) := fun h => by
          rcases (hF1 _ h).2 with h' | h'
          · have := (hlo _ h').2; omega
          · omega
        refine ⟨he, fr_cell h2 m1 hp1, fr_cell h2 m2 hp2, ?_⟩
        rw [← ho]
        refine HTo.mk F'' hH'' (fun i hi => ?_) ?_
        · rcases hF'' i hi with h | h
          · exact hF' i h
          · exact Or.inr (by omega)
        · refine (hfr.trans (Fr.of_below hbb (F := fun _ => False)) (fun i hi => hi.elim)).trans hfr' (fun i hi => ?_)
          rcases hi with h | h
          · exact hF' i h
          · exact Or.inr (by omega)
    have hmf := mkF
    have HFE : Hid (∀ e w3, InsOut base wa F (.pointer (some ⟨hg, 0, none⟩)) n R t bs e w3 → InsOut base w F (.pointer (some ⟨hg, 0, none⟩)) n R t bs e w3) := fun e w3 h => HOK.out 0 (by omega) (fun j hj => by omega) e w3 h
    clear hBa hHa HOK hB bf hlong HBF HBA
    go_enter Try.func18, Try.ntmps18
    go_wp2_with (go_at_call 38; refine hil.mono ?_; clear hil; rintro e wx ⟨rfl, hwx⟩; rw [hwx]; clear hwx wx)
    go_loopw [18] (fun i wr => ∃ k : Nat, k ≤ n ∧ i = .int .i64 k ∧ Hid (∀ j, j < k → fitsP (R j) bs.length = false) ∧ Hid (HTo base wa F (.pointer (some ⟨hg, 0, none⟩)) n R (t + k) wr)) (fun i _ => n - (intOf i).toNat)
    case atStart => exact ⟨0, Nat.zero_le _, rfl, fun j hj => by omega, HST.out⟩
    case round =>
      obtain ⟨k, hk, rfl, HN, HT⟩ := hrel
      by_cases hlt : k < n
      · obtain ⟨wb, hwb, hcl⟩ := HCALL.out k wr hlt HT
        have HWB : Hid ((wr.alloc (.cells #[.int .i64 0] 3)).alloc (.cells #[.bool false] 4) = wb) := hwb
        clear hwb
        have b1 := (Boxed.new wr 3 (.int .i64 0)).alloc (.cells #[.bool false] 4)
        have b2 := Boxed.new (wr.alloc (.cells #[.int .i64 0] 3)) 4 (.bool false)
        rw [World.size_alloc] at b2
        have b4 : Boxed _ (wr.heap.size + 1) 4 (.bool false) := b2.kept (grownBy_setCell' _ wr.heap.size (.int .i64 0)) (fun e => by simp at e)
        have x1 := b1.cell
        have x2 := b1.frozen
        have x3 := b4.cell
        have x4 := b4.frozen
        clear HCALL b1 b2 b4
        go_wp2_with fail
        rw [HWB.out]
        refine hcl.mono ?_
        clear hcl HWB
        rintro e w3 ⟨rfl, y1, y2, HT3⟩
        clear x1 x2 x3 x4 HT
        cases hft : fitsP (R k) bs.length with
        | false =>
          rw [hft] at y2 HT3
          have HN2 : Hid (∀ j, j < k + 1 → fitsP (R j) bs.length = false) := fun j hj => by
            by_cases e : j = k
            · rw [e]; exact hft
            · exact HN.out j (by omega)
          have HT4 : Hid (HTo base wa F (.pointer (some ⟨hg, 0, none⟩)) n R (t + (k + 1)) w3) := HT3.out
          clear hft HN HT3
          go_wp2
          go_roundw
          case rel => exact ⟨k + 1, by omega, by first | go_num | (congr 1; omega), HN2.out, HT4.out⟩
          case measure => simp [intOf]; omega
        | true =>
          rw [hft] at y2 HT3
          have hfl := freeAt_le (R k)
          have hE : InsOut base w F (.pointer (some ⟨hg, 0, none⟩)) n R t bs (.returned (.tuple #[.int .i64 ((k : Int) * 256 + (freeAt (R k) : Int)), .int .i64 0])) w3 := HFE.out _ _ (.ok HLG.out k hlt hft HN.out rfl (HT3.out.le (by omega)))
          have hfw : (freeAt (R k) : Int) ≤ 1000000 := by have := HFEW.out k hlt; omega
          clear hft HN HT3
          generalize freeAt (R k) = fa at *
          go_wp2
          refine bodyPost_ret (v := .tuple #[.int .i64 ((k : Int) * 256 + (fa : Int)), .int .i64 0]) (by simp [results, Try.results18, go_sem]) rfl ?_
          exact hE
      · obtain rfl : k = n := by omega
        have hE : InsOut base w F (.pointer (some ⟨hg, 0, none⟩)) k R t bs (.returned (.tuple #[.int .i64 0, .int .i64 83])) wr := HFE.out _ _ (.full HLG.out HN.out rfl HT.out)
        clear HN HT HCALL
        go_wp2
        refine bodyPost_ret (v := .tuple #[.int .i64 0, .int .i64 83]) (by simp [results, Try.results18, go_sem]) rfl ?_
        exact hE
/-- The ids of all records. -/
def scanR (n : Nat) (R : Nat → List (List UInt8)) : List Int := (List.range n).flatMap fun j => idsR j (R j)
theorem scanR_succ (n : Nat) (R : Nat → List (List UInt8)) : scanR (n + 1) R = scanR n R ++ idsR n (R n) := by
  unfold scanR; rw [List.range_succ, List.flatMap_append]; simp
theorem idsR_len (k : Nat) (rs : List (List UInt8)) : (idsR k rs).length ≤ rs.length := by
  unfold idsR
  rw [List.length_map]
  have := List.length_filter_le (fun s => decide (0 < (rs.getD s []).length)) (List.range rs.length)
  rwa [List.length_range] at this
theorem scanR_len (n : Nat) (R : Nat → List (List UInt8)) (h : ∀ j, j < n → (R j).length ≤ 256) : (scanR n R).length ≤ 256 * n := by
  induction n with
  | zero => simp [scanR]
  | succ n ih =>
    rw [scanR_succ, List.length_append]
    have h1 := ih (fun j hj => h j (by omega))
    have h2 := idsR_len n (R n)
    have h3 := h n (by omega)
    omega
/-- What Scan tells. -/
inductive ScanOut (base : Nat) (w : World) (F : Nat → Prop) (hv : Value) (n : Nat) (R : Nat → List (List UInt8)) (t : Nat) (e : Ending) (w3 : World) : Prop
  | mk (v : Value) (he : e = .returned (.tuple #[v, .int .i64 0])) (hrow : w3.ownsRow w.heap.size 3 1 v (scanR n R).length ((scanR n R).map (Value.int .i64))) (F' : Nat → Prop) (hH : HeapAt base w3 F' hv n R (t + n)) (hF' : ∀ i, F' i → F i ∨ w.heap.size ≤ i) (hfr : Fr w w3 F) (hnF : ∀ c, v.ownBlock = some c → ¬ F' c)
/-- Where Scan stands. -/
structure ScanLp (base : Nat) (w wa : World) (F : Nat → Prop) (hv : Value) (n : Nat) (R : Nat → List (List UInt8)) (t k : Nat) (wr : World) (F' : Nat → Prop) (v : Value) : Prop where
  hH : HeapAt base wr F' hv n R (t + k)
  hF' : ∀ i, F' i → F i ∨ wa.heap.size ≤ i
  hfr : Fr w wr F
  box : Boxed wr w.heap.size 33 v
  row : wr.ownsRow wa.heap.size 3 1 v (scanR k R).length ((scanR k R).map (Value.int .i64))
  nF : ∀ c, v.ownBlock = some c → ¬ F' c
set_option maxHeartbeats 2000000 in
theorem hscan_any {base : Nat} {w : World} {F : Nat → Prop} {hv : Value} {n : Nat} {R : Nat → List (List UInt8)} {t : Nat} (hH : HeapAt base w F hv n R t) (ht : t + n < 50000) :
    Calls Try.prog 12 #[hv] w fun e w3 => ScanOut base w F hv n R t e w3 := by
  have hb0 : Below w.heap.size w (w.alloc (.cells #[.slice none 0 0] 33)) := (Below.refl _ _).alloc (Nat.le_refl _) _
  have bf := Boxed.new w 33 (.slice none 0 0)
  have hFl := hH.lo
  have hsz : (w.alloc (.cells #[.slice none 0 0] 33)).heap.size = w.heap.size + 1 := by simp
  obtain ⟨wa, hwa⟩ : ∃ wa, w.alloc (.cells #[.slice none 0 0] 33) = wa := ⟨_, rfl⟩
  rw [hwa] at hb0 bf hsz
  have hHa := hH.keepB hb0
  have HFEW : Hid (∀ j, j < n → (R j).length ≤ 256) := hH.few
  obtain ⟨hg, p, rfl, c0, c1, hFg, hn1, hn2⟩ := hH.cells
  have c1a := (hb0.cell (p := ⟨hg, 1, none⟩) (hFl hg hFg).2).trans c1
  have HST : Hid (ScanLp base w wa F (.pointer (some ⟨hg, 0, none⟩)) n R t 0 wa F (.slice none 0 0)) := ScanLp.mk hHa (fun i hi => Or.inl hi) (Fr.of_below hb0) bf (World.ownsRow_nil _ _ _ _) (fun c hc => by cases hc)
  have HCALL : Hid (∀ (k : Nat) (wr : World) (F' : Nat → Prop) (v : Value), k < n → Hid (ScanLp base w wa F (.pointer (some ⟨hg, 0, none⟩)) n R t k wr F' v) → ∃ wb, wr.alloc (.cells #[.int .i64 k] 3) = wb ∧ Calls Try.prog 29 #[.pointer (some ⟨hg, 0, none⟩), .int .i64 k, .func (.func 30) #[] #[.pointer (some ⟨w.heap.size, 0, none⟩), .pointer (some ⟨wr.heap.size, 0, none⟩)]] wb fun e w3 => e = .returned (.int .i64 0) ∧ ∃ F'' v', Hid (ScanLp base w wa F (.pointer (some ⟨hg, 0, none⟩)) n R t (k + 1) w3 F'' v')) := by
    intro k wr F' v hk hh
    obtain ⟨hH', hF', hfr, hbox, hrow, hnF⟩ := hh.out
    refine ⟨_, rfl, ?_⟩
    have hlo := hH'.lo
    have hws := hbox.lt
    have b1 := Boxed.new wr 3 (.int .i64 k)
    have hbb : Below wr.heap.size wr (wr.alloc (.cells #[.int .i64 k] 3)) := (Below.refl _ _).alloc (Nat.le_refl _) _
    have hsb : (wr.alloc (.cells #[.int .i64 k] 3)).heap.size = wr.heap.size + 1 := by simp
    generalize wr.alloc (.cells #[.int .i64 k] 3) = wb at *
    have hFa : ¬ F' w.heap.size := fun h => by
      rcases hF' _ h with h' | h'
      · have := (hFl _ h').2; omega
      · omega
    have hbr : Boxed wb w.heap.size 33 v := (hbb.block _ hbox.lt).trans hbox
    have hrb : wb.ownsRow wa.heap.size 3 1 v (scanR k R).length ((scanR k R).map (Value.int .i64)) := own_of_block hrow (fun b hb => hbb.block b (ownGe hrow b hb).2)
    have hlen := scanR_len k R (fun j hj => HFEW.out j (by omega))
    have hbl := hbox.lt
    refine (onPage_any (C := fun i => i = w.heap.size ∨ v.ownBlock = some i) (hH'.keepB hbb) (by omega) hk 30 #[.pointer (some ⟨w.heap.size, 0, none⟩), .pointer (some ⟨wr.heap.size, 0, none⟩)] (enters_of Try.func30 (by kernel_rfl) rfl) (fun i hi => ?_) (fun w1 o w2 => o = none ∧ ∃ v', Boxed w2 w.heap.size 33 v' ∧ w2.ownsRow wa.heap.size 3 1 v' (scanR (k + 1) R).length ((scanR (k + 1) R).map (Value.int .i64)) ∧ (v'.ownBlock = v.ownBlock ∨ ∀ c, v'.ownBlock = some c → w1.heap.size ≤ c)) ?_).mono ?_
    · rcases hi with rfl | hi
      · exact ⟨hFa, by omega⟩
      · exact ⟨hnF i hi, by have := (ownGe hrow i hi).2; omega⟩
    · intro w1 b cap c hf ho hp
      have hob := World.ownsRow.lt ho b rfl
      have hw1s := hf.size
      have hCt := Cont.of_own ho
      have n1 : ¬ F' wr.heap.size := fun h => by have := (hlo _ h).2; omega
      have hr1 : w1.ownsRow wa.heap.size 3 1 v (scanR k R).length ((scanR k R).map (Value.int .i64)) := own_of_block hrb (fun j hj => hf.block j (ownGe hrb j hj).2 (hnF j hj))
      refine (scan1_any hCt (base := wa.heap.size) (Bi := w.heap.size) (Bp := wr.heap.size) (page := k) ((hf.block _ hbr.lt hFa).trans hbr) hr1 (show Boxed w1 wr.heap.size 3 (.int .i64 k) from (hf.block _ b1.lt n1).trans b1).cell (by omega) (by omega) (by omega) (by show b ≠ w.heap.size; omega) (fun e => by have := (ownGe hrow _ e).2; simp at this; omega) (by omega) (fun e => by have := (ownGe hrow _ e).2; omega) (fun e => by have := (ownGe hrow _ e).1; omega)).mono ?_
      rintro e w2 ⟨he, ⟨v', h1, h2, h3⟩, hfr2⟩
      rw [hp.recs] at h2
      exact .none_ he (hfr2.mono (fun i hi => Or.inl hi)) ⟨rfl, v', h1, by rw [scanR_succ]; exact h2, h3⟩
    · rintro e w3 ⟨o, w1, w2, F1, F'', he, h1', hp, h2, hF1, hH'', hF'', hfr', hF2⟩
      obtain ⟨ho, v', hv1, hv2, hv3⟩ := hp
      subst ho
      have hs1 := h1'.size
      have hself : ∀ c, v'.ownBlock = some c → ¬ F1 c ∧ ¬ F'' c := fun c hc => by
        have hc2 := (ownGe hv2 c hc).2
        rcases hv3 with h | h
        · have hc' : v.ownBlock = some c := h ▸ hc
          have hnc := hnF c hc'
          have hlt := (ownGe hrow c hc').2
          refine ⟨fun h => ?_, fun h => ?_⟩
          · rcases (hF1 c h).2 with h' | h'
            · exact hnc h'
            · omega
          · rcases hF'' c h with h' | h'
            · exact hnc h'
            · omega
        · have hge := h c hc
          refine ⟨fun h => ?_, fun h => ?_⟩
          · have := (hF1 c h).1; omega
          · rcases hF2 c h with h' | h' <;> omega
      have m1 : ¬ F1 w.heap.size := fun h => by
        rcases (hF1 _ h).2 with h' | h'
        · exact hFa h'
        · omega
      refine ⟨he, F'', v', ⟨hH'', fun i hi => ?_, ?_, (h2.block _ hv1.lt m1).trans hv1, own_of_block hv2 (fun b hb => h2.block b (ownGe hv2 b hb).2 (hself b hb).1), fun c hc => (hself c hc).2⟩⟩
      · rcases hF'' i hi with h | h
        · exact hF' i h
        · exact Or.inr (by omega)
      · exact (hfr.trans (Fr.of_below hbb (F := fun _ => False)) (fun i hi => hi.elim)).trans hfr' (fun i hi => by
          rcases hi with h | h | h
          · exact (hF' i h).imp (fun h => h) (fun h => by omega)
          · exact Or.inr (by omega)
          · exact Or.inr (by have := (ownGe hrow i h).1; omega))
  have hmf := mkF
  have HFL : Hid (F hg ∧ hg < w.heap.size) := ⟨hFg, (hFl hg hFg).2⟩
  have bfc := bf.cell
  clear hHa bf hH HFEW hFl
  go_enter Try.func12, Try.ntmps12
  go_wp2
  go_loopw [13] (fun i wr => ∃ (k : Nat) (F' : Nat → Prop) (v : Value), k ≤ n ∧ i = .int .i64 k ∧ Hid (ScanLp base w wa F (.pointer (some ⟨hg, 0, none⟩)) n R t k wr F' v)) (fun i _ => n - (intOf i).toNat)
  case atStart => exact ⟨0, F, _, Nat.zero_le _, rfl, HST.out⟩
  case round =>
    obtain ⟨k, F', v, hk, rfl, HL⟩ := hrel
    by_cases hlt : k < n
    · obtain ⟨wb, hwb, hcl⟩ := HCALL.out k wr F' v hlt HL
      have HWB : Hid (wr.alloc (.cells #[.int .i64 k] 3) = wb) := hwb
      have b0 := Boxed.new wr 3 (.int .i64 0)
      have x1 := b0.cell
      have x2 := b0.frozen
      clear HCALL hwb b0
      go_wp2_with fail
      rw [HWB.out]
      refine hcl.mono ?_
      clear hcl HWB x1 x2
      rintro e w3 ⟨rfl, F'', v', HL3⟩
      go_wp2
      go_roundw
      case rel => exact ⟨k + 1, F'', v', by omega, by first | go_num | (congr 1; omega), HL3.out⟩
      case measure => simp [intOf]; omega
    · obtain rfl : k = n := by omega
      have hsz3 := HL.out.box.lt
      have q := HL.out.box.cell
      have hE : ScanOut base w F (.pointer (some ⟨hg, 0, none⟩)) k R t (.returned (.tuple #[v, .int .i64 0])) wr := .mk v rfl (own_base HL.out.row (by omega)) F' HL.out.hH (fun i hi => (HL.out.hF' i hi).imp (fun h => h) (fun h => by omega)) HL.out.hfr HL.out.nF
      clear HCALL HL HST
      go_wp2
      refine bodyPost_ret (v := .tuple #[v, .int .i64 0]) (by simp [results, Try.results12, go_sem]) rfl ?_
      exact hE
end Go.Proofs.Ytkmgahembhgloaa
