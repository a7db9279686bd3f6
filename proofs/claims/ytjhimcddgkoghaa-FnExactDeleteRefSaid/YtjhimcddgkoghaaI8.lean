/- Diff, the document's and the program's. -/
import Derived.Test.YtjhimcddgkoghaaI7
namespace Go.Proofs.Ytjhimcddgkoghaa
open Go.RowKit

def diffR (a b : List Ent) : List Edt × Int := if 4096 < a.length ∨ 4096 < b.length then ([], 2) else if mapOK a = true ∧ mapOK b = true then (diffM a b, 0) else ([], 1)
theorem diffR_long {a b : List Ent} (h : 4096 < a.length ∨ 4096 < b.length) : diffR a b = ([], 2) := by rw [diffR, if_pos h]
theorem diffR_bad {a b : List Ent} (h : ¬(4096 < a.length ∨ 4096 < b.length)) (h2 : mapOK a = false ∨ mapOK b = false) : diffR a b = ([], 1) := by
  rw [diffR, if_neg h, if_neg]
  rintro ⟨x, y⟩
  rcases h2 with h | h
  · rw [h] at x; cases x
  · rw [h] at y; cases y
theorem diffR_ok {a b : List Ent} (h : ¬(4096 < a.length ∨ 4096 < b.length)) (h1 : mapOK a = true) (h2 : mapOK b = true) : diffR a b = (diffM a b, 0) := by rw [diffR, if_neg h, if_pos ⟨h1, h2⟩]
def TupE (e : TypeId) (r : List Edt × Int) (w : World) (e' : Ending) (w' : World) : Prop := ∃ v, e' = .returned (.tuple #[v, .int .i64 r.2]) ∧ w'.ownsRow w.heap.size e 3 v r.1.length (edtsC r.1) ∧ Below w.heap.size w w'
theorem TupE.mk {e : TypeId} {r : List Edt × Int} {l : List Edt} {c : Int} {v : Value} {w w' : World} (h : r = (l, c)) (ho : w'.ownsRow w.heap.size e 3 v l.length (edtsC l)) (hb : Below w.heap.size w w') : TupE e r w (.returned (.tuple #[v, .int .i64 c])) w' := ⟨v, by rw [h], by rw [h]; exact ho, hb⟩
set_option maxHeartbeats 1000000 in
theorem implDiff_any (A : Option Addr) (n c : Nat) (es : List Ent) (A' : Option Addr) (n' c' : Nat) (es' : List Ent) (w : World) (hr : Rd w 2 A n (entsC es)) (hr' : Rd w 2 A' n' (entsC es')) (hm : n ≤ maxLen) (hm' : n' ≤ maxLen) (hks : ∀ e ∈ es, e.1.size ≤ maxLen) (hks' : ∀ e ∈ es', e.1.size ≤ maxLen) :
    Calls Try.prog 60 #[.slice A n c, .slice A' n' c'] w (TupE 117 (diffR es es') w) := by
  have hlen := hr.len
  have hlen' := hr'.len
  by_cases hl : 4096 < n ∨ 4096 < n'
  · have hfin := Lib.hid (diffR_long (a := es) (b := es') (by omega))
    clear hlen hlen'
    rcases hl with h | h
    all_goals
      go_enter Try.func60, Try.ntmps60
      go_wp2
      all_goals
        go_ret2
        exact TupE.mk hfin.out (World.ownsRow_nil _ _ _ _) (Below.refl _ _)
  have hl1 : n ≤ 4096 := by omega
  have hl2 : n' ≤ 4096 := by omega
  have hlE : ¬(4096 < es.length ∨ 4096 < es'.length) := by omega
  have HlE := Lib.hid hlE
  clear hl hlen hlen' hlE
  have h1 := implMapOK_any A n c es w hr hm hks
  have h2 := fun W (hW : Below w.heap.size w W) => implMapOK_any A' n' c' es' W (hr'.below hW (Nat.le_refl _)) hm' hks'
  cases hm1 : mapOK es with
  | false =>
    have hfin := Lib.hid (diffR_bad HlE.out (.inl hm1))
    rw [hm1] at h1
    have H1 := Lib.hid h1
    clear h1 hm1 h2
    go_enter Try.func60, Try.ntmps60
    go_wp2_with (go_at_call 125; refine H1.out.mono ?_; rintro e w1 ⟨rfl, hb1⟩)
    go_ret2
    exact TupE.mk hfin.out (World.ownsRow_nil _ _ _ _) hb1
  | true =>
  rw [hm1] at h1
  have H1 := Lib.hid h1
  clear h1
  cases hm2 : mapOK es' with
  | false =>
    have hfin := Lib.hid (diffR_bad HlE.out (.inr hm2))
    rw [hm2] at h2
    have H2 := Lib.hid h2
    clear h2 hm1 hm2
    go_enter Try.func60, Try.ntmps60
    go_wp2_with fail
    refine H1.out.mono ?_
    rintro e w1 ⟨rfl, hb1⟩
    go_wp2_with fail
    refine (H2.out _ hb1).mono ?_
    rintro e w2 ⟨rfl, hb2⟩
    have hb02 := keepS hb1 hb2
    go_wp2
    go_ret2
    exact TupE.mk hfin.out (World.ownsRow_nil _ _ _ _) hb02
  | true =>
    have hfin := Lib.hid (diffR_ok HlE.out hm1 hm2)
    rw [hm2] at h2
    have H2 := Lib.hid h2
    clear h2 hm1 hm2
    go_enter Try.func60, Try.ntmps60
    go_wp2_with fail
    refine H1.out.mono ?_
    rintro e w1 ⟨rfl, hb1⟩
    go_wp2_with fail
    refine (H2.out _ hb1).mono ?_
    rintro e w2 ⟨rfl, hb2⟩
    have hb02 := keepS hb1 hb2
    go_wp2_with fail
    refine (differences_any A n c es A' n' c' es' _ (hr.below hb02 (Nat.le_refl _)) (hr'.below hb02 (Nat.le_refl _)) hl1 hl2).mono ?_
    rintro e w3 ⟨v3, rfl, ho3, hb3⟩
    have HO3 := Lib.hid ho3; clear ho3
    go_wp2
    go_ret2
    exact TupE.mk hfin.out (ownsRow_base HO3.out hb02.size) (keepS hb02 hb3)

end Go.Proofs.Ytjhimcddgkoghaa
