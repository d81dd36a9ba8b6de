/- The document's pool: how it lies; find, Held, own; two lists of pages held against each other. -/
import Derived.Test.YtpmbpadckbkglaaD5V
import Derived.Test.YtpmbpadckbkglaaP7U
namespace Go.Proofs.Ytpmbpadckbkglaa
open Go.RowKit Go.Maps
set_option linter.unusedVariables false
set_option linter.unusedSimpArgs false

/-- A frame of the document's pool. -/
structure RF where
  page : Int
  pins : Int
  dirty : Bool
  mark : Int
  v : Value
  b : List UInt8
  used : Int
def cellsR (f : RF) : List Value := [.int .i64 f.page, .int .i64 f.pins, .bool f.dirty, .int .u64 f.mark, f.v, .int .i64 f.used]
theorem cellsR_len (f : RF) : (cellsR f).length = 6 := rfl
def OwnF (base : Nat) (w : World) (v : Value) (l : List RF) : Prop := w.ownsRow base 95 6 v l.length (l.flatMap cellsR)
/-- The document's pool. -/
structure RPS where
  first : Int
  pages : Int
  frames : Int
  l : List RF
  log : Int
  now : Int
  early : Bool
structure RPIn (base : Nat) (w : World) (H : Nat → Prop) (g : Nat) (dq vL : Value) (R : RPS) : Prop where
  hg : w.heap[g]? = some (.cells #[dq, .int .i64 R.first, .int .i64 R.pages, .int .i64 R.frames, vL, .int .u64 R.log, .int .i64 R.now, .bool R.early] 42 (0, 0))
  row : OwnF base w vL R.l
  hb : ∀ f ∈ R.l, OwnB base w f.v f.b
  gg : H g
  gv : ∀ c, vL.ownBlock = some c → H c
  gb : ∀ f ∈ R.l, ∀ c, f.v.ownBlock = some c → H c
  lo : ∀ k, H k → base ≤ k ∧ k < w.heap.size
theorem RPIn.keep {base : Nat} {w w' : World} {H X : Nat → Prop} {g : Nat} {dq vL : Value} {R : RPS} (h : RPIn base w H g dq vL R) (hf : Fr w w' X) (hd : ∀ k, H k → ¬ X k) : RPIn base w' H g dq vL R := by
  have hb : ∀ k, H k → w'.heap[k]? = w.heap[k]? := fun k hk => hf.block k (h.lo k hk).2 (hd k hk)
  exact { h with
    hg := (hb g h.gg).trans h.hg
    row := own_of_block h.row (fun c hc => hb c (h.gv c hc))
    hb := fun f hf' => own_of_block (h.hb f hf') (fun c hc => hb c (h.gb f hf' c hc))
    lo := fun k hk => ⟨(h.lo k hk).1, Nat.lt_of_lt_of_le (h.lo k hk).2 hf.size⟩ }
theorem RPIn.keepB {base : Nat} {w w' : World} {H : Nat → Prop} {g : Nat} {dq vL : Value} {R : RPS} (h : RPIn base w H g dq vL R) (hb : Below w.heap.size w w') : RPIn base w' H g dq vL R :=
  h.keep (Fr.of_below (F := fun _ => False) hb) (fun _ _ => id)
/-- Where the row of frames lies. -/
theorem OwnF.form {base : Nat} {w : World} {v : Value} {l : List RF} (h : OwnF base w v l) : ∃ ao cap, v = .slice ao l.length cap ∧ l.length ≤ cap ∧ (l = [] ∨ ∃ g, ao = some ⟨g, 0, none⟩ ∧ base ≤ g ∧ g < w.heap.size ∧ ∀ k (hk : k < l.length), w.rangeAt g (k * 6) (cellsR l[k])) := by
  rcases own_range (c := cellsR) (n := 6) (fun x _ => rfl) h with ⟨hv, hl⟩ | ⟨g, cap, hv, hc, h1, h2, hr⟩
  · exact ⟨none, 0, by rw [hv, hl]; rfl, by rw [hl]; exact Nat.le_refl _, Or.inl hl⟩
  · exact ⟨_, cap, hv, hc, Or.inr ⟨g, rfl, h1, h2, hr⟩⟩
/-- What find tells. -/
inductive FindOut (l : List RF) (p : Int) (e : Ending) : Prop
  | at_ (k : Nat) (hk : k < l.length) (hp : l[k].page = p) (he : e = .returned (.int .i64 k))
  | none_ (hp : ∀ f ∈ l, f.page ≠ p) (he : e = .returned (.int .i64 (-1)))
set_option maxHeartbeats 400000 in
theorem find_any {base : Nat} {w : World} {H : Nat → Prop} {g : Nat} {dq vL : Value} {R : RPS} (h : RPIn base w H g dq vL R) (p : Int) (hl : R.l.length ≤ 1000) :
    Calls Try.prog 31 #[.pointer (some ⟨g, 0, none⟩), .int .i64 p] w fun e w' => FindOut R.l p e ∧ w' = w := by
  have c4 : w.cell? ⟨g, 4, none⟩ = some vL := by rw [cell_of_row w g 4 _ _ _ h.hg]; rfl
  obtain ⟨ao, cap, rfl, hc, hr⟩ := h.row.form
  have HR : Hid (R.l = [] ∨ ∃ g, ao = some ⟨g, 0, none⟩ ∧ base ≤ g ∧ g < w.heap.size ∧ ∀ k (hk : k < R.l.length), w.rangeAt g (k * 6) (cellsR R.l[k])) := hr
  clear h hr
  go_enter Try.func31, Try.ntmps31
  go_wp2
  go_loopw [5] (fun i wr => ∃ k : Nat, k ≤ R.l.length ∧ i = .int .i64 k ∧ Hid (∀ j (hj : j < R.l.length), j < k → R.l[j].page ≠ p) ∧ w = wr) (fun i _ => R.l.length - (intOf i).toNat)
  case atStart => exact ⟨0, Nat.zero_le _, rfl, fun j _ hj => by omega, rfl⟩
  case round =>
    obtain ⟨k, hk, rfl, HN, hw⟩ := hrel
    subst hw
    by_cases hlt : k < R.l.length
    · rcases HR.out with h0 | ⟨gl, rfl, _, _, hr⟩
      · rw [h0] at hlt; simp at hlt
      have q0 : w.cell? ⟨gl, k * 6, none⟩ = some (.int .i64 R.l[k].page) := hr k hlt 0 _ rfl
      obtain ⟨Y, hY⟩ : ∃ Y, R.l[k].page = Y := ⟨_, rfl⟩
      have HY : Hid (R.l[k].page = Y) := hY
      rw [hY] at q0
      clear hY hr
      by_cases he : Y = p
      · have hO : FindOut R.l p (.returned (.int .i64 k)) := .at_ k hlt (HY.out.trans he) rfl
        subst he
        clear HN HR
        go_wp2
        go_ret
        exact ⟨hO, rfl⟩
      · have y1 : (Y == p) = false := by simpa using he
        have HN2 : Hid (∀ j (hj : j < R.l.length), j < k + 1 → R.l[j].page ≠ p) := fun j hj hjk => by
          by_cases e : j = k
          · subst e; rw [HY.out]; exact he
          · exact HN.out j hj (by omega)
        clear HN
        go_wp2
        go_roundw
        case rel => exact ⟨k + 1, by omega, by first | go_num | (congr 1; omega), HN2, by first | rfl | trivial⟩
        case measure => simp [intOf]; omega
    · obtain rfl : k = R.l.length := by omega
      have hO : FindOut R.l p (.returned (.int .i64 (-1))) := .none_ (fun f hf => by
        obtain ⟨j, hj, e⟩ := List.getElem_of_mem hf
        rw [← e]; exact HN.out j hj hj) rfl
      clear HN HR
      go_wp2
      go_ret
      exact ⟨hO, rfl⟩
end Go.Proofs.Ytpmbpadckbkglaa
