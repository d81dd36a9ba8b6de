/- A whole write, refused or not; bytes held against bytes; what keeps all writes is the disk as it is. -/
import Derived.Test.YtggkclnnneoohaaD5G
import Derived.Laws.IdiomStrings
import Derived.Lib.Strings
namespace Go.Proofs.Ytggkclnnneoohaa
open Go.RowKit Go.Maps
set_option linter.unusedVariables false
set_option linter.unusedSimpArgs false

/-- Behind a Write: what the disk is then. -/
def DS.write (D : DS) (i : Int) (xs : List UInt8) : DS :=
  if (0 ≤ i ∧ i < D.size) ∧ xs.length ≤ 128 then { D with now := upd D.now i (full xs), ws := D.ws ++ [⟨i, full xs, D.safe⟩] } else D
/-- What a Write answers. -/
def writeE (size i : Int) (xs : List UInt8) : Int := if 0 ≤ i ∧ i < size then (if xs.length ≤ 128 then 0 else 1) else 51
/-- A disk that was turned: where it lies then, and that nothing else was. -/
def Turned (base : Nat) (w : World) (F : Nat → Prop) (p : Value) (n : Nat) (D : DS) (w' : World) : Prop := ∃ F', DiskAt base w' F' p n D ∧ Fr w w' F ∧ ∀ k, F' k → F k ∨ w.heap.size ≤ k
theorem write_all {base : Nat} {F : Nat → Prop} {p : Value} {n : Nat} {D : DS} {w : World} (h : DiskAt base w F p n D) (i : Int) (vb : Value) (xs : List UInt8) (hB : Bytes w vb xs) (hn : n + D.ws.length < 100000) :
    Calls Try.prog 9 #[p, .int .i64 i, vb] w fun e w' => e = .returned (.int .i64 (writeE D.size i xs)) ∧ Turned base w F p n (D.write i xs) w' := by
  by_cases h1 : 0 ≤ i ∧ i < D.size
  · by_cases h2 : xs.length ≤ 128
    · refine (write_any h i h1 vb xs hB h2 hn).mono fun e w' ⟨he, F', h3, h4, h5⟩ => ⟨by rw [he, writeE, if_pos h1, if_pos h2], F', ?_, h4, h5⟩
      rw [DS.write, if_pos ⟨h1, h2⟩]; exact h3
    · refine (write_long h i h1 vb xs hB (by omega)).mono fun e w' ⟨he, hw⟩ => ⟨by rw [he, writeE, if_pos h1, if_neg h2], F, ?_⟩
      subst hw
      rw [DS.write, if_neg (fun hh => h2 hh.2)]; exact ⟨h, Fr.refl _ _, fun k hk => Or.inl hk⟩
  · refine (write_range h i (by omega) vb).mono fun e w' ⟨he, hw⟩ => ⟨by rw [he, writeE, if_neg h1], F, ?_⟩
    subst hw
    rw [DS.write, if_neg (fun hh => h1 hh.1)]; exact ⟨h, Fr.refl _ _, fun k hk => Or.inl hk⟩
theorem sync_all {base : Nat} {F : Nat → Prop} {p : Value} {n : Nat} {D : DS} {w : World} (h : DiskAt base w F p n D) :
    Calls Try.prog 11 #[p] w fun e w' => e = .returned (.tuple #[]) ∧ Turned base w F p n { D with safe := D.ws.length } w' :=
  (sync_any h).mono fun e w' ⟨he, h1, h2⟩ => ⟨he, F, h1, h2, fun k hk => Or.inl hk⟩
theorem Turned.below {base B : Nat} {w0 w : World} {F : Nat → Prop} {p : Value} {n : Nat} {D : DS} {w' : World} (h : Turned base w F p n D w') (hb : Below B w0 w) (hF : ∀ k, F k → B ≤ k) (hB : B ≤ w.heap.size) : Below B w0 w' := by
  obtain ⟨F', _, h2, _⟩ := h
  exact hb.trans (h2.below hB hF)
/-- A disk somewhere behind base. -/
def DiskOn (base : Nat) (w : World) (p : Value) (n : Nat) (D : DS) : Prop := ∃ F, DiskAt base w F p n D
theorem Turned.on {base : Nat} {w : World} {F : Nat → Prop} {p : Value} {n : Nat} {D : DS} {w' : World} (h : Turned base w F p n D w') : DiskOn base w' p n D := by
  obtain ⟨F', h1, _⟩ := h
  exact ⟨F', h1⟩
theorem DiskOn.keep {base : Nat} {w w' : World} {p : Value} {n : Nat} {D : DS} (h : DiskOn base w p n D) (hb : Below w.heap.size w w') : DiskOn base w' p n D := by
  obtain ⟨F, h⟩ := h
  exact ⟨F, h.keepB hb⟩
theorem conv_str {w : World} {tv : Value} {xs : List UInt8} (h : Bytes w tv xs) : (convert 32 9 tv).run Try.prog w = .ok (.string ⟨xs.toArray⟩) w := by
  rcases h with ⟨rfl, rfl⟩ | ⟨a, cap, rfl, hc, hb⟩
  · rw [run_convert_bytes_string w _ _ _ none 0 0 Try.underlying32 Try.underlying5 Try.underlying9]; rfl
  · exact run_convert_bytes_back w 32 9 5 a cap xs Try.underlying32 Try.underlying5 Try.underlying9 hb
theorem same_any (v1 v2 : Value) (xs ys : List UInt8) (w : World) (h1 : Bytes w v1 xs) (h2 : Bytes w v2 ys) :
    Calls Try.prog 15 #[v1, v2] w fun e w' => e = .returned (.bool (decide (xs = ys))) ∧ w' = w := by
  have c1 := conv_str h1
  have c2 := conv_str h2
  have l1 : (⟨xs.toArray⟩ : ByteArray).toList = xs := by rw [Lib.toList_data]
  have l2 : (⟨ys.toArray⟩ : ByteArray).toList = ys := by rw [Lib.toList_data]
  clear h1 h2
  generalize (⟨xs.toArray⟩ : ByteArray) = a at *
  generalize (⟨ys.toArray⟩ : ByteArray) = b at *
  go_enter Try.func15, Try.ntmps15
  go_wp2
  go_ret
  refine ⟨?_, rfl⟩
  show Ending.returned (.bool _) = _
  congr 2
  by_cases h : xs = ys <;> simp [h]
/-- What the writes of a disk come to. -/
structure Whole (D : DS) : Prop where
  now : D.now = D.ws.foldl (fun f x => upd f x.place x.sec) D.first
theorem whole_write {D : DS} (h : Whole D) (i : Int) (xs : List UInt8) : Whole (D.write i xs) := by
  unfold DS.write
  split
  · exact ⟨by simp only [List.foldl_append, List.foldl_cons, List.foldl_nil]; rw [h.now]⟩
  · exact h
theorem whole_sync {D : DS} (h : Whole D) : Whole { D with safe := D.ws.length } := ⟨h.now⟩
theorem fold_idx {α β : Type} (g : β → α → β) : ∀ (l : List α) (f : β) (k : Nat), (l.zipIdx k).foldl (fun f x => g f x.1) f = l.foldl g f
  | [], f, k => rfl
  | a :: l, f, k => by rw [List.zipIdx_cons, List.foldl_cons, List.foldl_cons, fold_idx g l]
theorem cut_all {D : DS} (h : Whole D) (ks : List Bool) (hk : ks = List.replicate D.ws.length true) (safe : Nat) : cutF ks safe D.first D.ws = D.now := by
  rw [h.now, ← fold_idx (fun f (x : W3) => upd f x.place x.sec) D.ws D.first 0]
  unfold cutF
  have key : ∀ (l : List (W3 × Nat)) (f : Int → List UInt8), (∀ x ∈ l, leftB ks safe x.2 = true) → l.foldl (fun f x => if leftB ks safe x.2 then upd f x.1.place x.1.sec else f) f = l.foldl (fun f x => upd f x.1.place x.1.sec) f := by
    intro l
    induction l with
    | nil => intro f _; rfl
    | cons a l ih =>
      intro f hl
      rw [List.foldl_cons, List.foldl_cons, hl a (by simp), if_pos rfl]
      exact ih _ (fun x hx => hl x (by simp [hx]))
  refine key _ _ fun x hx => ?_
  have hlt : x.2 < D.ws.length := by
    have := List.snd_lt_of_mem_zipIdx hx
    simpa using this
  unfold leftB
  rw [hk]
  by_cases h1 : x.2 < safe
  · simp [h1]
  · have h2 : x.2 - safe < D.ws.length := by omega
    simp [List.getD, h2]
/-- A row of truths that the call made. -/
def OwnK (base : Nat) (w : World) (v : Value) (ks : List Bool) : Prop := w.ownsRow base 4 1 v ks.length (ks.map Value.bool)
theorem OwnK.bools {base : Nat} {w : World} {v : Value} {ks : List Bool} (h : OwnK base w v ks) : Bools w v ks := by
  obtain ⟨h1, h2⟩ := h
  rcases h2 with ⟨hv, hn⟩ | ⟨g, cap, cur, hv, hg, hh, hc, hm, hs, hx⟩
  · exact Or.inl ⟨hv, List.eq_nil_of_length_eq_zero hn⟩
  · refine Or.inr ⟨⟨g, 0, none⟩, cap, hv, hc, fun j hj => ?_⟩
    rw [Addr.add_mid, cell_of_row w g (0 + j) cur _ _ hh]
    have : (cur.toList.take (ks.length * 1))[j]? = some (.bool ks[j]) := by rw [hx]; simp [hj]
    rw [List.getElem?_take, if_pos (by omega)] at this
    simpa using this
theorem infoBl : (Try.prog.info? 4).map (fun i => (i.zero, i.size, i.bytes)) = some (some (.bool false), 1, 1) := by kernel_rfl
theorem one_bl (ys : List Bool) : ∀ u ∈ ys.map Value.bool, u.oneCell' = true := by
  intro u hu
  obtain ⟨c, _, rfl⟩ := List.mem_map.1 hu
  rfl
/-- append, to a row of truths, of one that was laid now. -/
theorem wp_appK (w : World) {ops : Array Oper} {rest : List Oper} {o : Oper} {a : Act} {Q : Exit → Act → World → Prop} (hgd : o.guard = none) (s x : Operand)
    (ho : o.op = .call { callee := .builtin .append, args := #[s, x], argTypes := #[33, 33] })
    (base : Nat) (v : Value) (ks : List Bool) (hs : a.eval s = v) (hown : OwnK base w v ks) (B : Nat) (c : Bool) (hx : a.eval x = .slice (some ⟨B, 0, none⟩) 1 1) (hB : w.cell? ⟨B, 0, none⟩ = some (.bool c))
    (hl : ks.length ≤ 1000000) (hbase : base ≤ w.heap.size)
    (h : ∀ v' w', OwnK base w' v' (ks ++ [c]) → Below base w w' → wpList Try.prog ops Q rest (a.put o.dst v') w') : wpList Try.prog ops Q (o :: rest) a w := by
  obtain ⟨i0, hi, hz0, hz1, hz2⟩ := info_parts infoBl
  refine wpList_append_lies w hgd s x 33 ho base 4 i0 (.bool false) 1 1 Try.underlying33 hi hz0 hz1 hz2 rfl (by decide) v ks.length (ks.map Value.bool) hs hown ⟨B, 0, none⟩ 1 1 [.bool c] hx rfl ?_ (by intro u hu; rw [List.mem_singleton.1 hu]; rfl) (by decide) (by unfold maxLen; omega) (by omega) hbase w.heap.size rfl ?_
  · intro j u hu
    match j, hu with
    | 0, hu =>
      rw [Addr.add_mid]
      simp only [List.getElem?_cons_zero, Option.some.injEq] at hu
      rw [← hu]; exact hB
    | j + 1, hu => simp at hu
  · intro gk cap w' h1 h2 _ _
    refine h _ w' ?_ ((Below.refl _ _).grown h2 hbase (fun k hk => (World.ownsRow.lt hown k hk).1))
    unfold OwnK
    rw [List.length_append, List.map_append]
    exact h1
theorem OwnK.keepB {base : Nat} {w w' : World} {v : Value} {ks : List Bool} (h : OwnK base w v ks) (hb : Below w.heap.size w w') : OwnK base w' v ks :=
  own_of_block h (fun k hk => hb.block k (World.ownsRow.lt h k hk).2)
/-- The four cells of a step. -/
theorem cells_op {w : World} {g o : Nat} {x : OpV} (h : w.rangeAt g o (cellsO x)) : w.cell? ⟨g, o, none⟩ = some (.int .i64 x.kind) ∧ w.cell? ⟨g, o + 1, none⟩ = some (.int .i64 x.i) ∧ w.cell? ⟨g, o + 2, none⟩ = some x.vb ∧ w.cell? ⟨g, o + 3, none⟩ = some x.vk :=
  ⟨h 0 _ rfl, h 1 _ rfl, h 2 _ rfl, h 3 _ rfl⟩
/-- Where a script's playing stands: the disk, and what is so of it. -/
structure Play (w wr : World) (p : Value) (k : Nat) (D : DS) : Prop where
  on : DiskOn w.heap.size wr p 0 D
  whole : Whole D
  size : D.size = 8
  len : D.ws.length ≤ k
  below : Below w.heap.size w wr
theorem Play.sync {w wr w' : World} {p : Value} {k : Nat} {D : DS} {F : Nat → Prop} (h : Play w wr p k D) (hF : DiskAt w.heap.size wr F p 0 D) (ht : Turned w.heap.size wr F p 0 { D with safe := D.ws.length } w') : Play w w' p (k + 1) { D with safe := D.ws.length } :=
  ⟨ht.on, whole_sync h.whole, h.size, by have := h.len; simp; omega, ht.below h.below (fun k hk => (hF.lo k hk).1) h.below.size⟩
theorem write_len (D : DS) (i : Int) (xs : List UInt8) : (D.write i xs).ws.length ≤ D.ws.length + 1 ∧ (D.write i xs).size = D.size := by
  unfold DS.write
  split <;> simp
theorem Play.write {w wr w' : World} {p : Value} {k : Nat} {D : DS} {F : Nat → Prop} {i : Int} {xs : List UInt8} (h : Play w wr p k D) (hF : DiskAt w.heap.size wr F p 0 D) (ht : Turned w.heap.size wr F p 0 (D.write i xs) w') : Play w w' p (k + 1) (D.write i xs) :=
  ⟨ht.on, whole_write h.whole _ _, by rw [(write_len D i xs).2]; exact h.size, by have := h.len; have := (write_len D i xs).1; omega, ht.below h.below (fun k hk => (hF.lo k hk).1) h.below.size⟩
theorem Play.drew {w wr : World} {p : Value} {k : Nat} {D : DS} (h : Play w wr p k D) : Play w wr.drew p k D := ⟨h.on.keep (Below.refl _ _).drew, h.whole, h.size, h.len, h.below.drew⟩
theorem cutF_nil (ks : List Bool) (safe : Nat) (f : Int → List UInt8) : cutF ks safe f [] = f := rfl
theorem left_now (D : DS) (done safe : Nat) (ks : List Bool) : (D.left done safe ks).now = cutF ks safe D.first (D.ws.take done) := rfl
/-- Behind whatever leaves w0's blocks as they are, a disk's first eight sectors read as f. -/
def Reads (w0 : World) (p : Value) (f : Int → List UInt8) : Prop := ∀ wb (j : Nat), Below w0.heap.size w0 wb → j < 8 →
  Calls Try.prog 13 #[p, .int .i64 j] wb fun e w' => ∃ k, e = .returned (.tuple #[.slice (some ⟨k, 0, none⟩) 128 128, .int .i64 0]) ∧ RowB w' k (f j) ∧ (f j).length = 128 ∧ Below wb.heap.size wb w'
theorem reads_of {base : Nat} {w : World} {F : Nat → Prop} {p : Value} {n : Nat} {D : DS} (h : DiskAt base w F p n D) (hs : D.size = 8) : Reads w p D.now := by
  intro wb j hb hj
  refine (read_any (h.keepB hb) j (by rw [hs]; omega)).mono fun e w' ⟨k, _, he, hr, hb'⟩ => ⟨k, he, hr, ?_, hb'⟩
  obtain ⟨g, b1, b2, v, _, h⟩ := h
  exact h.m2.len j
theorem Reads.eq {w0 : World} {p : Value} {f g : Int → List UInt8} (h : Reads w0 p f) (e : f = g) : Reads w0 p g := e ▸ h
theorem bytes_row {w : World} {k : Nat} {s : List UInt8} (h : RowB w k s) (hs : s.length = 128) : Bytes w (.slice (some ⟨k, 0, none⟩) 128 128) s := h.bytes hs (by omega)
end Go.Proofs.Ytggkclnnneoohaa
