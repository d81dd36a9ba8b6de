/- Looking for a key's entry: find. A tree as it lies. -/
import Derived.Test.YtfobcnmhghfanaaB9T
namespace Go.Proofs.Ytfobcnmhghfanaa
open Go.RowKit Go.Shelf
set_option linter.unusedVariables false
set_option linter.unusedSimpArgs false

/-- What finding comes to. -/
inductive FdOut (w : World) (nd : Nat → Nd) (H : Nat) (lv : Nat → List Br) (key : ByteArray) (e : Ending) (w' : World) : Prop
  | none_ (he : e = .returned (.pointer none)) (hb : Below w.heap.size w w') (hn : getL (ents nd (lv H)) key = none)
  | some_ (A : List Br) (p : Br) (B : List Br) (i : Nat) (hi : i < (nd p.2).es.length) (g n cap : Nat) (he : e = .returned (.pointer (some ⟨g, i * 3, none⟩))) (hb : Below w.heap.size w w') (hp : lv H = A ++ p :: B) (hv : (nd p.2).ve = .slice (some ⟨g, 0, none⟩) n cap) (hn : getL (ents nd (lv H)) key = some (nd p.2).es[i]) (hk : (nd p.2).es[i].key = key)
theorem find_nil (key : ByteArray) (w : World) : Calls Try.prog 28 #[.pointer none, .string key] w fun e w' => e = .returned (.pointer none) ∧ w' = w := by
  have h := seek_nil key true w
  go_enter Try.func28, Try.ntmps28
  go_wp2_with (go_at_call 31; refine h.mono ?_; clear h; rintro e wx ⟨rfl, hwx⟩; rw [hwx]; clear hwx wx)
  go_ret
  exact ⟨rfl, rfl⟩
/-- An entry's cells. -/
theorem ent_cells {base : Nat} {w : World} {g n cap : Nat} {es : List E} (h : OwnE base w (.slice (some ⟨g, 0, none⟩) n cap) es) (i : Nat) (hi : i < es.length) : w.cell? ⟨g, i * 3, none⟩ = some (.string es[i].key) ∧ w.cell? ⟨g, i * 3 + 1, none⟩ = some (.int .i64 es[i].num) ∧ w.cell? ⟨g, i * 3 + 2, none⟩ = some (.bool es[i].ghost) :=
  ⟨by have := h.cell (cE_len _) i hi 0 (by omega); simpa [cE] using this, by have := h.cell (cE_len _) i hi 1 (by omega); simpa [cE] using this, by have := h.cell (cE_len _) i hi 2 (by omega); simpa [cE] using this⟩
set_option maxHeartbeats 1000000 in
theorem find_any {base : Nat} {w : World} {ro : Ro} {nd : Nat → Nd} {r H : Nat} {lv : Nat → List Br} {dep : Nat → Nat} (ts : TS base w ro nd r H lv dep) (key : ByteArray) :
    Calls Try.prog 28 #[pt r, .string key] w fun e w' => FdOut w nd H lv key e w' := by
  have hsk := seek_any ts key true
  have HS : Hid (TS base w ro nd r H lv dep) := ts
  have HG : Hid _ := get_next ts.sh.line key
  clear ts
  go_enter Try.func28, Try.ntmps28
  go_wp2_with fail
  refine hsk.mono ?_
  clear hsk
  rintro e w1 hO
  cases hO with
  | none_ he hb hn =>
    subst he
    have HO : Hid (FdOut w nd H lv key (.returned (.pointer none)) w1) := .none_ rfl hb (by rw [HG.out, hn])
    clear hn HG
    go_wp2
    go_ret
    exact HO.out
  | some_ A p B i hi g n cap he hb hp hv hn =>
    subst he
    have tsr := HS.out.below hb
    have hrow := tsr.mem.rowE p.2 (tsr.inn H (Nat.le_refl _) p (by rw [hp]; simp))
    rw [hv] at hrow
    have x1 := (ent_cells hrow i hi).1
    by_cases hk : (nd p.2).es[i].key = key
    · have HO : Hid (FdOut w nd H lv key (.returned (.pointer (some ⟨g, i * 3, none⟩))) w1) := .some_ A p B i hi g n cap rfl hb hp hv (by rw [HG.out, hn]; simp [hk]) hk
      rw [hk] at x1
      clear hn HG hk hrow hv tsr
      go_wp2
      go_ret
      exact HO.out
    · have HO : Hid (FdOut w nd H lv key (.returned (.pointer none)) w1) := .none_ rfl hb (by rw [HG.out, hn]; simp [hk])
      have hk2 : ((nd p.2).es[i].key.toList == key.toList) = false := by rw [eq_kl]; simp [hk]
      clear hn HG hrow hv tsr
      generalize (nd p.2).es[i].key = k at *
      go_wp2
      go_ret
      exact HO.out
end Go.Proofs.Ytfobcnmhghfanaa
