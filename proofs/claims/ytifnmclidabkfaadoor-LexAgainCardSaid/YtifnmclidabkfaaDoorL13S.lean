/- The program's Scan. -/
import Derived.Test.YtifnmclidabkfaaDoorL13K
namespace Go.Proofs.YtifnmclidabkfaaDoor
open Go.RowKit
set_option linter.unusedVariables false
set_option linter.unusedSimpArgs false

def tokC (t : Tok) : List Value := [.int .i64 t.k, .string ⟨t.s.toArray⟩, .int .i64 t.n, .int .i64 t.at_]
theorem tokC_len (l : List Tok) : ∀ x ∈ l, (tokC x).length = 4 := fun _ _ => rfl
/-- A row of tokens that the call made. -/
abbrev TRow (base : Nat) (w : World) (v : Value) (l : List Tok) : Prop := Row 30 4 tokC base w v l
theorem infoT : (Tryd.prog.info? 30).map (fun i => (i.zero, i.size, i.bytes)) = some (some (.agg #[.int .i64 0, .string ⟨#[]⟩, .int .i64 0, .int .i64 0]), 4, 40) := by kernel_rfl
theorem one_tokC (t : Tok) : ∀ u ∈ tokC t, u.oneCell' = true := by
  intro u hu
  simp only [tokC, List.mem_cons, List.not_mem_nil, or_false] at hu
  rcases hu with rfl | rfl | rfl | rfl <;> rfl
/-- append, to a row of tokens, of one more. -/
theorem wp_appT (w : World) {ops : Array Oper} {rest : List Oper} {o : Oper} {a : Act} {Q : Exit → Act → World → Prop} (hgd : o.guard = none) (s x : Operand)
    (ho : o.op = .call { callee := .builtin .append, args := #[s, x], argTypes := #[22, 22] })
    (base : Nat) (v : Value) (l : List Tok) (hs : a.eval s = v) (hown : TRow base w v l) (Bk : Nat) (t : Tok) (hx : a.eval x = .slice (some ⟨Bk, 0, none⟩) 1 1) (hB : w.heap[Bk]? = some (.cells (tokC t).toArray 30 (0, 0))) (hl : l.length ≤ 100000) (hbase : base ≤ w.heap.size)
    (h : ∀ g cap w', TRow base w' (.slice (some ⟨g, 0, none⟩) (l.length + 1) cap) (l ++ [t]) → Below base w w' → wpList Tryd.prog ops Q rest (a.put o.dst (.slice (some ⟨g, 0, none⟩) (l.length + 1) cap)) w') : wpList Tryd.prog ops Q (o :: rest) a w := by
  obtain ⟨i0, hi, hz0, hz1, hz2⟩ := info_parts infoT
  refine wpList_append_lies w hgd s x 22 ho base 30 i0 (.agg #[.int .i64 0, .string ⟨#[]⟩, .int .i64 0, .int .i64 0]) 4 40 Tryd.underlying22 hi hz0 hz1 hz2 rfl (by decide) v l.length (l.flatMap tokC) hs hown ⟨Bk, 0, none⟩ 1 1 (tokC t) hx rfl (World.news_of_block hB) (one_tokC t) (by decide) (by unfold maxLen; omega) (by omega) hbase w.heap.size rfl ?_
  intro g cap w' h1 h2 h3 _
  refine h g cap w' ?_ ((Below.refl _ _).grown h2 hbase (fun k hk => (hown.lo k hk).1))
  show World.ownsRow _ _ _ _ _ _ _
  rw [List.length_append, List.flatMap_append]
  simpa using h1
/-- What Scan comes to. -/
inductive ScTo (w : World) (s : ByteArray) (e : Ending) (w' : World) : Prop
  | ok (l : List Tok) (v : Value) (ho : scF s.data.toList = .ok l) (he : e = .returned (.tuple #[v, .string ⟨#[48, 48, 48, 48, 48]⟩])) (row : TRow w.heap.size w' v l) (hb : Below w.heap.size w w')
  | no (er : Nat) (ho : scF s.data.toList = .error er) (he : e = .returned (.tuple #[.slice none 0 0, .string (stB er)])) (hb : Below w.heap.size w w')
/-- What is still to be read, behind what was read. -/
def Rst (s : ByteArray) (q : Nat) (L : List Tok) : Prop := scA s 0 0 = match scA s q L.length with
  | .error e => .error e
  | .ok l => .ok (L ++ l)
theorem Rst.tk {s : ByteArray} {q : Nat} {L : List Tok} (h : Rst s q L) (hq : q < s.size) {k : Int} {t : List UInt8} {v : Int} {n : Nat} (hst : stp (rest s q) = .tk k t v n) : (L.length = 600 → scA s 0 0 = .error 4) ∧ (L.length < 600 → Rst s (q + n) (L ++ [⟨k, t, v, q⟩])) := by
  unfold Rst at h ⊢
  rw [scA_tk s L.length hq hst] at h
  constructor
  · intro h6
    rw [if_pos (by omega)] at h
    exact h
  · intro h6
    rw [if_neg (by omega)] at h
    rw [List.length_append, List.length_singleton]
    rw [h]
    cases scA s (q + n) (L.length + 1) with
    | error e => rfl
    | ok l => simp
theorem Rst.sk {s : ByteArray} {p q : Nat} {L : List Tok} (h : Rst s p L) (hk : Skp s p q) : Rst s q L := by
  unfold Rst at h ⊢
  rw [← hk.sc]
  exact h
theorem Rst.no {s : ByteArray} {q : Nat} {L : List Tok} (h : Rst s q L) (hq : q < s.size) {er : Nat} (hst : stp (rest s q) = .no er) : scA s 0 0 = .error er := by
  unfold Rst at h
  rw [scA_no s L.length hq hst] at h
  exact h
theorem Rst.done {s : ByteArray} {q : Nat} {L : List Tok} (h : Rst s q L) (hq : s.size ≤ q) : scA s 0 0 = .ok L := by
  unfold Rst at h
  rw [scA_end s _ hq] at h
  simpa using h
theorem scF_A {s : ByteArray} (h : s.size ≤ 2000) : scF s.data.toList = scA s 0 0 := by
  unfold scF
  rw [if_neg (by simp; omega), scA_all]
theorem scF_big {s : ByteArray} (h : 2000 < s.size) : scF s.data.toList = .error 4 := by
  unfold scF
  rw [if_pos (by simp; omega)]
/-- Where Scan stands: the scanner and the tokens so far. -/
structure SS (w W : World) (s : ByteArray) (q : Nat) (v : Value) (L : List Tok) : Prop where
  sc : Sc W w.heap.size s q
  row : TRow (w.heap.size + 1) W v L
  bl : Below w.heap.size w W
  sz : w.heap.size + 1 ≤ W.heap.size
  rs : Rst s q L
  no : L.length ≤ 600
theorem SS.keepB {w W W' : World} {s : ByteArray} {q : Nat} {v : Value} {L : List Tok} (h : SS w W s q v L) (hb : Below W.heap.size W W') : SS w W' s q v L :=
  ⟨h.sc.keepB hb, h.row.of_block (fun c hc => hb.block c (h.row.lo c hc).2), h.bl.trans (hb.mono h.bl.size), Nat.le_trans h.sz hb.size, h.rs, h.no⟩
theorem SS.moved {w W W' : World} {s : ByteArray} {q q' : Nat} {v : Value} {L : List Tok} (h : SS w W s q v L) (hs : Sc W' w.heap.size s q') (hf : Fr W W' (fun i => i = w.heap.size)) (hr : Rst s q' L) : SS w W' s q' v L :=
  ⟨hs, h.row.of_block (fun c hc => hf.block c (h.row.lo c hc).2 (fun e => by have := (h.row.lo c hc).1; omega)), ⟨hf.os.trans h.bl.os, hf.tape.trans h.bl.tape, hf.output.trans h.bl.output, Nat.le_trans h.bl.size hf.size, fun k hk => (hf.block k (by have := h.bl.size; omega) (by omega)).trans (h.bl.block k hk)⟩, Nat.le_trans h.sz hf.size, hr, h.no⟩
theorem SS.bl2 {w W W' : World} {s : ByteArray} {q : Nat} {v : Value} {L : List Tok} (h : SS w W s q v L) (hf : Fr W W' (fun i => i = w.heap.size)) : Below w.heap.size w W' :=
  ⟨hf.os.trans h.bl.os, hf.tape.trans h.bl.tape, hf.output.trans h.bl.output, Nat.le_trans h.bl.size hf.size, fun k hk => (hf.block k (by have := h.bl.size; omega) (by omega)).trans (h.bl.block k hk)⟩
theorem SS.row2 {w W W' : World} {s : ByteArray} {q : Nat} {v : Value} {L : List Tok} (h : SS w W s q v L) (hf : Fr W W' (fun i => i = w.heap.size)) : TRow (w.heap.size + 1) W' v L :=
  h.row.of_block (fun c hc => hf.block c (h.row.lo c hc).2 (fun e => by have := (h.row.lo c hc).1; omega))
theorem SS.pushed {w W W' : World} {s : ByteArray} {q : Nat} {v' : Value} {L' : List Tok} (hs : Sc W w.heap.size s q) (hbl : Below w.heap.size w W) (hsz : w.heap.size + 1 ≤ W.heap.size) (hb : Below (w.heap.size + 1) W W') (row : TRow (w.heap.size + 1) W' v' L') (rs : Rst s q L') (no : L'.length ≤ 600) : SS w W' s q v' L' :=
  ⟨⟨(hb.block _ (by omega)).trans hs.hh, hs.le⟩, row, hbl.trans (hb.mono (by omega)), Nat.le_trans hsz hb.size, rs, no⟩
theorem new_atT (w : World) (o : Obj) {B : Nat} (h : B = w.heap.size) : (w.alloc o).heap[B]? = some o := by subst h; exact heap_alloc_new _ _
theorem st_ne (er : Nat) : stB er = ⟨#[52, 50, 54, 48, 49]⟩ ∨ stB er = ⟨#[50, 50, 48, 48, 51]⟩ ∨ stB er = ⟨#[50, 50, 48, 48, 49]⟩ ∨ stB er = ⟨#[53, 52, 48, 48, 48]⟩ := by
  unfold stB
  split <;> simp
set_option maxHeartbeats 4000000 in
set_option maxRecDepth 100000 in
theorem scan_any {a : Addr} (s : ByteArray) (w : World) (hL : LibW a w) : Calls Tryd.prog 5 #[.string s] w fun e w' => ScTo w s e w' := by
  by_cases hbig : 2000 < s.size
  · have hb' : (s.size : Int) > 2000 := by omega
    have HG : Hid (ScTo w s (.returned (.tuple #[.slice none 0 0, .string ⟨#[53, 52, 48, 48, 48]⟩])) w) := .no 4 (scF_big hbig) rfl (Below.refl _ _)
    clear hbig
    go_enter Tryd.func5, Tryd.ntmps5
    go_wp2_with fail
    go_ret2
    exact HG.out
  · have hb' : ¬ (s.size : Int) > 2000 := by omega
    have hs : s.size ≤ 10000 := by omega
    have HSF := Go.Proofs.YtifnmclidabkfaaDoor.Hid.mk' (scF_A (s := s) (by omega))
    have hbn : Below w.heap.size w (w.alloc (.cells #[.string s, .int .i64 0] 35)) := (Below.refl _ _).alloc (Nat.le_refl _) _
    have HZ : Hid (SS w (w.alloc (.cells #[.string s, .int .i64 0] 35)) s 0 (.slice none 0 0) []) := ⟨⟨heap_alloc_new w _, Nat.zero_le _⟩, Row.nil_ _ _ _ _ _, hbn, by simp, by unfold Rst; simp only [List.length_nil]; cases scA s 0 0 <;> simp, by simp⟩
    have HL := Go.Proofs.YtifnmclidabkfaaDoor.Hid.mk' hL
    clear hbig hbn hL
    go_enter Tryd.func5, Tryd.ntmps5
    go_wp2_with fail
    generalize w.alloc (.cells #[.string s, .int .i64 0] 35) = w0 at *
    refine (skip_any HZ.out.sc hs).mono ?_
    rintro e w1 ⟨q0, rfl, hsc, hfr, hsk, hno⟩
    have HS1 : Hid (SS w w1 s q0 (.slice none 0 0) []) := HZ.out.moved hsc hfr (HZ.out.rs.sk hsk)
    have HB1 := Go.Proofs.YtifnmclidabkfaaDoor.Hid.mk' hno
    clear HZ hsc hfr hsk hno
    go_wp2_with fail
    go_loopg [5] s.size (fun kx tv wr => ∃ (q : Nat) (ao : Option Addr) (cap : Nat) (L : List Tok), tv = .slice ao L.length cap ∧ s.size - q ≤ kx ∧ Hid (SS w wr s q (.slice ao L.length cap) L) ∧ Hid (blN (rest s q) = 0))
    case atStart => exact ⟨q0, none, 0, [], rfl, by omega, HS1, HB1⟩
    case round =>
      rename World => wr
      obtain ⟨q, ao, cap, L, rfl, hkx, HS, HB⟩ := hrel
      clear HS1 HB1
      have hat := atEnd_any HS.out.sc hs
      have hqle := HS.out.sc.le
      have hL6 := HS.out.no
      by_cases hend : q = s.size
      · rw [decide_eq_true hend] at hat
        have HG : Hid (∀ W, Below wr.heap.size wr W → ScTo w s (.returned (.tuple #[.slice ao L.length cap, .string ⟨#[48, 48, 48, 48, 48]⟩])) W) := fun W hb => .ok L _ (HSF.out.trans (HS.out.rs.done (by omega))) rfl (own_base (HS.out.keepB hb).row (by omega)) (HS.out.keepB hb).bl
        clear HS HB hend
        go_wp2_with fail
        refine hat.mono ?_
        rintro e w2 ⟨rfl, hb2⟩
        clear hat
        go_wp2_with fail
        go_ret2
        exact HG.out _ hb2
      · rw [decide_eq_false hend] at hat
        have hlt : q < s.size := by omega
        go_wp2_with fail
        refine hat.mono ?_
        rintro e w2 ⟨rfl, hb2⟩
        have HS2 := Go.Proofs.YtifnmclidabkfaaDoor.Hid.mk' (HS.out.keepB hb2)
        clear hat HS hb2
        have hnx := next_any HS2.out.sc (HL.out.keep HS2.out.bl) hs hlt HB.out
        go_wp2_with fail
        refine hnx.mono ?_
        intro e w3 hN
        clear hnx HB hend
        rcases hN with ⟨k, t, v, n, ho, rfl, hsc, hfr⟩ | ⟨er, k, t, v, ho, rfl, q3, hsc, hfr⟩
        · obtain ⟨h6, hrs⟩ := HS2.out.rs.tk hlt ho
          have hn1 := (stp_tk ho).1
          by_cases h600 : L.length = 600
          · have HG : Hid (∀ W, Below w.heap.size w W → ScTo w s (.returned (.tuple #[.slice none 0 0, .string ⟨#[53, 52, 48, 48, 48]⟩])) W) := fun W hb => .no 4 (HSF.out.trans (h6 h600)) rfl hb
            have HBL : Hid (∀ o, Below w.heap.size w (w3.alloc o)) := fun o => (HS2.out.bl2 hfr).alloc (by have := (HS2.out.bl2 hfr).size; omega) o
            have h6' : (L.length : Int) = 600 := by omega
            clear HS2 hsc hfr h6 hrs ho h600
            go_wp2_with fail
            go_ret2
            exact HG.out _ (HBL.out _)
          · have h6' : ¬ (L.length : Int) = 600 := by omega
            have h6b : ((L.length : Int) == 600) = false := by simpa using h6'
            have hL7 : L.length < 600 := by omega
            have HR := Go.Proofs.YtifnmclidabkfaaDoor.Hid.mk' (hrs hL7)
            have hrow3 := HS2.out.row2 hfr
            have hbl3 := HS2.out.bl2 hfr
            have hsz3 : w.heap.size + 1 ≤ w3.heap.size := Nat.le_trans HS2.out.sz hfr.size
            have HSC := Go.Proofs.YtifnmclidabkfaaDoor.Hid.mk' hsc
            have HBL := Go.Proofs.YtifnmclidabkfaaDoor.Hid.mk' hbl3
            have hl10 : L.length ≤ 100000 := by omega
            clear HS2 hsc hfr h6 hrs ho h600 hbl3
            go_wp2_with (at_builtin; refine wp_appT _ rfl _ _ rfl (w.heap.size + 1) _ L rfl (Row.of_block hrow3 (fun c hc => (((Below.refl _ _).alloc (Nat.le_refl _) _).alloc (by simp) _).block c (hrow3.lo c hc).2)) (w3.heap.size + 1) ⟨k, t, v, q⟩ rfl (new_atT _ _ (by simp)) hl10 (by simp; omega) ?_)
            intro g cap4 w4 hrow4 hb4
            have hba : ∀ (W : World) o, Below W.heap.size W (W.alloc o) := fun W o => (Below.refl _ _).alloc (Nat.le_refl _) o
            have HS4 : Hid (SS w w4 s (q + n) (.slice (some ⟨g, 0, none⟩) (L.length + 1) cap4) (L ++ [⟨k, t, v, q⟩])) := SS.pushed ((HSC.out.keepB (hba _ _)).keepB (hba _ _)) ((HBL.out.trans ((hba _ _).mono HBL.out.size)).trans ((hba _ _).mono (by have := HBL.out.size; simp; omega))) (by simp; omega) hb4 hrow4 HR.out (by simp; omega)
            clear HSC HBL HR hrow3 hrow4 hb4 hba
            have hlen : (L ++ [(⟨k, t, v, q⟩ : Tok)]).length = L.length + 1 := by simp
            have HLEN := Go.Proofs.YtifnmclidabkfaaDoor.Hid.mk' hlen
            generalize L ++ [(⟨k, t, v, q⟩ : Tok)] = L4 at *
            go_wp2_with fail
            refine (skip_any HS4.out.sc hs).mono ?_
            rintro e w5 ⟨q5, rfl, hsc, hfr, hsk, hno⟩
            have hq5 := hsk.ge
            have HS5 : Hid (SS w w5 s q5 (.slice (some ⟨g, 0, none⟩) L4.length cap4) L4) := by
              rw [hlen]
              exact HS4.out.moved hsc hfr (HS4.out.rs.sk hsk)
            have HB5 := Go.Proofs.YtifnmclidabkfaaDoor.Hid.mk' hno
            clear HS4 hsc hfr hsk hno
            clear hlen
            go_wp2_with fail
            go_roundg (s.size - q5)
            case measure => omega
            case rel => exact ⟨q5, _, cap4, L4, by rw [HLEN.out], Nat.le_refl _, HS5, HB5⟩
        · have hno := HS2.out.rs.no hlt ho
          have HG : Hid (∀ W, Below w.heap.size w W → ScTo w s (.returned (.tuple #[.slice none 0 0, .string (stB er)])) W) := fun W hb => .no er (HSF.out.trans hno) rfl hb
          have HBL : Hid (∀ o, Below w.heap.size w (w3.alloc o)) := fun o => (HS2.out.bl2 hfr).alloc (by have := (HS2.out.bl2 hfr).size; omega) o
          have hst := st_ne er
          generalize stB er = sb at *
          clear HS2 hsc hfr ho hno
          rcases hst with rfl | rfl | rfl | rfl
          all_goals
            go_wp2_with fail
            go_ret2
            exact HG.out _ (HBL.out _)
end Go.Proofs.YtifnmclidabkfaaDoor
