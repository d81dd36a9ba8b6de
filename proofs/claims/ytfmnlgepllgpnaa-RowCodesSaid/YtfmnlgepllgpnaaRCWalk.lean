/- The walk of the law RowCodes: rows have the document's bytes, and any bytes are a row's, or refused, as it says. -/
import Derived.Test.YtfmnlgepllgpnaaRUWalk
import Derived.Test.YtfmnlgepllgpnaaR4O
namespace Go.Proofs.Ytfmnlgepllgpnaa
open Go.RowKit
set_option linter.unusedVariables false

/-- The bytes and the number that are told of a row. -/
def encX (l : List V4) : List UInt8 := if longR l || !rightR l then [] else form l
def encE (l : List V4) : Int := if longR l then 42 else if rightR l then 0 else 41
theorem enc_all {l : List V4} {v : Value} {w : World} (hr : RowAt w v l) (hs : ∀ x ∈ l, x.2.2.1.length ≤ 140737488355328) (hn : ∀ x ∈ l, In64 x) (hl : l.length ≤ 140737488355328) :
    Calls Try.prog 9 #[v] w fun e w' => (∃ v', e = .returned (.tuple #[v', .int .i64 (encE l)]) ∧ Bytes w' v' (encX l)) ∧ Below w.heap.size w w' := by
  cases h1 : longR l
  · cases h2 : rightR l
    · refine (encode_wrong v l w hr hs hl h1 h2).mono fun e w' ⟨he, hb⟩ => ⟨⟨_, ?_, Or.inl ⟨rfl, ?_⟩⟩, hb⟩
      · rw [he]; simp [encE, h1, h2]
      · simp [encX, h2]
    · refine (encode_ok v l w hr (okR_of h1 h2 hn)).mono fun e w' ⟨⟨v', he, ho⟩, hb⟩ => ⟨⟨v', ?_, ?_⟩, hb⟩
      · rw [he]; simp [encE, h1, h2]
      · have := ho.at
        simpa [encX, h1, h2] using this
  · refine (encode_long v l w hr hs hl h1).mono fun e w' ⟨he, hb⟩ => ⟨⟨_, ?_, Or.inl ⟨rfl, ?_⟩⟩, hb⟩
    · rw [he]; simp [encE, h1]
    · simp [encX, h1]
theorem refEnc_all {l : List V4} {v : Value} {w : World} (hr : RowAt w v l) (hs : ∀ x ∈ l, x.2.2.1.length ≤ 140737488355328) (hn : ∀ x ∈ l, In64 x) (hl : l.length ≤ 140737488355328) :
    Calls Try.prog 10 #[v] w fun e w' => (∃ v', e = .returned (.tuple #[v', .int .i64 (encE l)]) ∧ Bytes w' v' (encX l)) ∧ Below w.heap.size w w' := by
  refine (refEncode_any v l w hr hs hn hl).mono fun e w' ⟨hE, hb⟩ => ⟨?_, hb⟩
  rcases hE with ⟨h1, he⟩ | ⟨h1, h2, he⟩ | ⟨h1, h2, v', he, ho⟩
  · exact ⟨_, by rw [he]; simp [encE, h1], Or.inl ⟨rfl, by simp [encX, h1]⟩⟩
  · exact ⟨_, by rw [he]; simp [encE, h1, h2], Or.inl ⟨rfl, by simp [encX, h2]⟩⟩
  · refine ⟨v', by rw [he]; simp [encE, h1, h2], ?_⟩
    have := ho.at
    simpa [encX, h1, h2] using this
/-- The row and the number that are told of bytes. -/
def DP (bs : List UInt8) (l : List V4) (ev : Int) : Prop := (OkR l ∧ form l = bs ∧ ev = 0) ∨ (l = [] ∧ NoForm bs ∧ ev = 41)
theorem dp_one {bs : List UInt8} {l m : List V4} {i j : Int} (h : DP bs l i) (k : DP bs m j) : l = m ∧ i = j := by
  rcases h with ⟨h1, h2, h3⟩ | ⟨h1, h2, h3⟩ <;> rcases k with ⟨k1, k2, k3⟩ | ⟨k1, k2, k3⟩
  · exact ⟨form_inj h1 k1 (h2.trans k2.symm), by rw [h3, k3]⟩
  · exact absurd h2 (k2 l h1)
  · exact absurd k2 (h2 m k1)
  · exact ⟨by rw [h1, k1], by rw [h3, k3]⟩
theorem dp_len {bs : List UInt8} {l : List V4} {i : Int} (h : DP bs l i) : l.length ≤ 12 := by
  rcases h with ⟨h1, _⟩ | ⟨h1, _⟩
  · exact h1.1
  · rw [h1]; simp
theorem told_all {w w' : World} {bs : List UInt8} {e : Ending} (h : Told w bs e w') : (∃ rv l ev, e = .returned (.tuple #[rv, .int .i64 ev]) ∧ RowAt w' rv l ∧ Hid (DP bs l ev)) ∧ Below w.heap.size w w' := by
  obtain ⟨⟨l, rv, he, hok, hf, hr⟩ | ⟨he, hn⟩, hb⟩ := h
  · exact ⟨⟨rv, l, 0, he, hr, Or.inl ⟨hok, hf, rfl⟩⟩, hb⟩
  · exact ⟨⟨_, [], 41, he, ⟨none, 0, rfl, Nat.le_refl _, Or.inl rfl⟩, Or.inr ⟨rfl, hn, rfl⟩⟩, hb⟩
/-- append of bytes that are read, however many. -/
theorem wp_appE (w : World) {ops : Array Oper} {rest : List Oper} {o : Oper} {a : Act} {Q : Exit → Act → World → Prop} (hgd : o.guard = none) (s x : Operand)
    (ho : o.op = .call { callee := .builtin .append, args := #[s, x], argTypes := #[25, 25] })
    (base g n cap : Nat) (xs : List UInt8) (hs : a.eval s = .slice (some ⟨g, 0, none⟩) n cap) (hown : OwnB base w (.slice (some ⟨g, 0, none⟩) n cap) xs)
    (v : Value) (ys : List UInt8) (hx : a.eval x = v) (hy : Bytes w v ys)
    (hl : xs.length + ys.length ≤ 200000000000000) (hbase : base ≤ w.heap.size)
    (h : ∀ v' w', OwnB base w' v' (xs ++ ys) → Below base w w' → wpList Try.prog ops Q rest (a.put o.dst v') w') : wpList Try.prog ops Q (o :: rest) a w := by
  by_cases h0 : ys = []
  · subst h0
    obtain ⟨vo, vc, rfl⟩ := bytes_slice hy
    refine wp_app0 w hgd s x ho base g n cap xs hs hown vo vc hx hbase fun v' w' h1 h2 => h v' w' (by simpa using h1) h2
  · rcases hy with ⟨_, he⟩ | ⟨ad, c, rfl, _, hB⟩
    · exact absurd he h0
    · exact wp_appL w hgd s x ho base _ xs hs hown ad ys.length c ys hx hB rfl (List.length_pos_iff.2 h0) hl hbase h

theorem own_77 {base : Nat} {w : World} {v : Value} {bs : List UInt8} (h : OwnB base w v (bs ++ [77])) : ∃ g cap, v = .slice (some ⟨g, 0, none⟩) (bs.length + 1) cap ∧ bs.length + 1 ≤ cap ∧ Bytes w (.slice (some ⟨g, 0, none⟩) bs.length cap) bs ∧ w.cell? ((⟨g, 0, none⟩ : Addr).add bs.length) = some (.int .u8 77) := by
  have hlen : (bs ++ [(77 : UInt8)]).length = bs.length + 1 := by simp
  rcases id h with ⟨_, h2⟩
  rcases h2 with ⟨_, hn⟩ | ⟨g, cap, cur, hv, _, _, hc, _⟩
  · rw [hlen] at hn; cases hn
  · rw [hlen] at hv hc
    subst hv
    have hcells := own_cells h
    refine ⟨g, cap, rfl, hc, Or.inr ⟨_, cap, rfl, by omega, fun j hj => ?_⟩, ?_⟩
    · rw [hcells j (by simp; omega), List.getElem_append_left hj]
    · rw [hcells bs.length (by simp), List.getElem_append_right (Nat.le_refl _)]
      simp [bv]
set_option maxHeartbeats 4000000 in
theorem rowCodes_law (u o v : Value) (a m : List V4) (bs : List UInt8) (w : World) (hu : RowAt w u a) (ho : RowAt w o m) (hv : Bytes w v bs) (ha : ∀ x ∈ a, RawOk 140737488355328 x) (hm : ∀ x ∈ m, RawOk 140737488355328 x) (la : a.length ≤ 1099511627776000) (lm : m.length ≤ 140737488355328) (lb : bs.length ≤ 140737488355328) :
    Calls Try.prog 3 #[u, o, v] w fun e w' => e = .returned (.bool true) ∧ Below w.heap.size w w' := by
  have hv0 := hv
  obtain ⟨vo, vc, rfl⟩ := bytes_slice hv
  have hms : ∀ x ∈ m, x.2.2.1.length ≤ 140737488355328 := fun x hx => (hm x hx).2.2
  have hmi : ∀ x ∈ m, In64 x := fun x hx => (hm x hx).2.1
  go_enter Try.func3, Try.ntmps3
  go_wp2_with fail
  refine (row_any 140737488355328 u a _ hu ha (by omega)).mono ?_
  rintro e w1 ⟨x, l, rfl, ox, okx, H1⟩
  have rx := ox.row
  have hll := okx.len
  have hls : ∀ x ∈ l, x.2.2.1.length ≤ 140737488355328 := okx.texts
  have hli : ∀ x ∈ l, In64 x := fun x hx => right_in (okx.rights x hx)
  clear hu ha ox hm
  go_wp2_with fail
  refine (enc_all rx hls hli (by omega)).mono ?_
  rintro e w2 ⟨⟨p1, rfl, b1⟩, h2⟩
  have rx2 := rx.keep h2
  have H2 := keepA H1 h2
  clear rx H1 h2
  go_wp2_with fail
  refine (refEnc_all rx2 hls hli (by omega)).mono ?_
  rintro e w3 ⟨⟨p2, rfl, b2⟩, h3⟩
  have b1 := b1.keep h3
  have H3 := keepA H2 h3
  have ho3 := ho.keep H3
  clear rx2 H2 h3 hls hli okx
  generalize encX l = X1 at *
  generalize encE l = E1 at *
  go_wp2_with fail
  refine (enc_all ho3 hms hmi lm).mono ?_
  rintro e w4 ⟨⟨p3, rfl, b3⟩, h4⟩
  have b1 := b1.keep h4
  have b2 := b2.keep h4
  have H4 := keepA H3 h4
  have ho4 := ho.keep H4
  clear ho3 H3 h4
  go_wp2_with fail
  refine (refEnc_all ho4 hms hmi lm).mono ?_
  rintro e w5 ⟨⟨p4, rfl, b4⟩, h5⟩
  have b1 := b1.keep h5
  have b2 := b2.keep h5
  have b3 := b3.keep h5
  have H5 := keepA H4 h5
  clear ho4 H4 h5 hms hmi ho
  generalize encX m = X2 at *
  generalize encE m = E2 at *
  have hnew := ownB_empty w5.heap.size w5 (Nat.le_refl _)
  have B5 : Below w5.heap.size w5 (w5.alloc (.cells #[] 5)) := (Below.refl _ _).alloc (Nat.le_refl _) _
  have hv5 : Bytes (w5.alloc (.cells #[] 5)) (.slice vo bs.length vc) bs := (hv0.keep H5).keep B5
  have hs5 := B5.size
  go_wp2_with (at_builtin; refine wp_appE _ rfl _ _ rfl w5.heap.size w5.heap.size 0 0 [] rfl hnew (.slice vo bs.length vc) bs rfl hv5 (by simp; omega) hs5 ?_)
  intro v6 w6 o6 b6
  have o6' : OwnB w5.heap.size w6 v6 bs := by simpa using o6
  have B6 := B5.trans b6
  have hs6 := B6.size
  have B6a := B6.alloc hs6 (.cells #[.int .u8 77] 5)
  have hs6a := B6a.size
  obtain ⟨so, sc, rfl⟩ := o6'.slice
  have hone : ∀ j (hj : j < [(77 : UInt8)].length), (w6.alloc (.cells #[.int .u8 77] 5)).cell? ((⟨w6.heap.size, 0, none⟩ : Addr).add j) = some (bv [(77 : UInt8)][j]) := fun j hj => by
    obtain rfl : j = 0 := by simpa using hj
    rw [Addr.add_mid, cell_of_row _ _ _ _ _ _ (heap_alloc_new w6 _)]
    rfl
  clear o6 b6 hnew B5 hv5
  go_wp2_with (at_builtin; refine wp_appL _ rfl _ _ rfl w5.heap.size _ bs rfl (o6'.alloc _) ⟨w6.heap.size, 0, none⟩ 1 1 [77] rfl hone rfl (by decide) (by omega) hs6a ?_)
  intro v7 w7 o7 b7
  have B7 := B6a.trans b7
  obtain ⟨g, cap, rfl, hcap, bown, c77⟩ := own_77 o7
  have H7 := keepA H5 B7
  have b1 := b1.keep B7
  have b2 := b2.keep B7
  have b3 := b3.keep B7
  have b4 := b4.keep B7
  clear o6' o7 b7 B6 B6a B7 hone H5
  go_wp2_with fail
  refine (decode_any _ bs _ bown (by omega)).mono ?_
  intro e w8 hD
  obtain ⟨⟨r1, l1, i1, rfl, ra1, D1⟩, h8⟩ := told_all hD
  have b1 := b1.keep h8
  have b2 := b2.keep h8
  have b3 := b3.keep h8
  have b4 := b4.keep h8
  have bown := bown.keep h8
  have c77 : w8.cell? ((⟨g, 0, none⟩ : Addr).add bs.length) = some (.int .u8 77) := (h8.cell (p := (⟨g, 0, none⟩ : Addr).add bs.length) (World.block_lt_of_cell? w7 _ c77)).trans c77
  have H8 := keepA H7 h8
  have hv8 := hv0.keep H8
  clear hD h8 H7
  go_wp2_with fail
  refine (refDecode_any _ bs _ hv8 lb).mono ?_
  intro e w9 hD
  obtain ⟨⟨r2, l2, i2, rfl, ra2, D2⟩, h9⟩ := told_all hD
  obtain ⟨hl12, hi12⟩ := dp_one D1.out D2.out
  subst hl12 hi12
  have hl1 := dp_len D1.out
  have b1 := b1.keep h9
  have b2 := b2.keep h9
  have b3 := b3.keep h9
  have b4 := b4.keep h9
  have bown := bown.keep h9
  have c77 : w9.cell? ((⟨g, 0, none⟩ : Addr).add bs.length) = some (.int .u8 77) := (h9.cell (p := (⟨g, 0, none⟩ : Addr).add bs.length) (World.block_lt_of_cell? w8 _ c77)).trans c77
  have ra1 := ra1.keep h9
  have H9 := keepA H8 h9
  have hv9 := hv0.keep H9
  clear hD h9 H8 hv8 D1 D2
  go_wp2_with fail
  refine (same_any p1 p2 X1 X1 _ b1 b2).mono ?_
  rw [show (X1 == X1) = true by simp]
  rintro e w10 ⟨rfl, rfl⟩
  go_wp2_with fail
  refine (same_any p3 p4 X2 X2 _ b3 b4).mono ?_
  rw [show (X2 == X2) = true by simp]
  rintro e w11 ⟨rfl, rfl⟩
  go_wp2_with fail
  refine (same_any _ _ bs bs _ bown hv9).mono ?_
  rw [show (bs == bs) = true by simp]
  rintro e w12 ⟨rfl, rfl⟩
  go_wp2_with fail
  refine (sameRow_any r1 r2 l1 l1 _ ra1 ra2 (by omega) (by omega)).mono ?_
  rw [show decide (l1 = l1) = true by simp]
  rintro e w13 ⟨rfl, h13⟩
  have H13 := keepA H9 h13
  have c77 := (h13.cell (p := (⟨g, 0, none⟩ : Addr).add bs.length) (World.block_lt_of_cell? _ _ c77)).trans c77
  clear h13 H9
  go_wp2_with fail
  refine (alive_any _).mono ?_
  rintro e w14 ⟨rfl, h14⟩
  have H14 := keepA H13 h14
  have c77 := (h14.cell (p := (⟨g, 0, none⟩ : Addr).add bs.length) (World.block_lt_of_cell? _ _ c77)).trans c77
  clear h14 H13
  have d77 := c77
  rw [Addr.add_mid, Nat.zero_add] at d77
  clear c77
  go_wp2
  go_ret
  exact ⟨rfl, H14⟩
end Go.Proofs.Ytfmnlgepllgpnaa
