/- Changes in order: a comparison of maps is in order; the keys on which two lists of changes differ, from either side. -/
import Derived.Test.YtmafbodblpgcjaaB3
namespace Go.Proofs.Ytmafbodblpgcjaa.AM
open Go Go.RowKit
set_option linter.unusedVariables false
def SrtE (es : List Edt) : Prop := es.Pairwise fun a b => klt a.key b.key = true
theorem diffL_lb (k : ByteArray) : ∀ (f : Nat) (a b : List Ent), (∀ x ∈ a, klt k x.1 = true) → (∀ y ∈ b, klt k y.1 = true) → ∀ e ∈ diffL f a b, klt k e.key = true := by
  intro f
  induction f with
  | zero => intro a b _ _ e he; simp [diffL] at he
  | succ f ih =>
    intro a b ha hb e he
    match a, b with
    | [], [] => simp [diffL] at he
    | x :: a, [] =>
      rw [diffL] at he
      rcases List.mem_cons.1 he with rfl | he
      · exact ha x (by simp)
      · exact ih a [] (fun y hy => ha y (by simp [hy])) hb e he
    | [], y :: b =>
      rw [diffL] at he
      rcases List.mem_cons.1 he with rfl | he
      · exact hb y (by simp)
      · exact ih [] b ha (fun z hz => hb z (by simp [hz])) e he
    | x :: a, y :: b =>
      rw [diffL] at he
      have ha' : ∀ z ∈ a, klt k z.1 = true := fun z hz => ha z (by simp [hz])
      have hb' : ∀ z ∈ b, klt k z.1 = true := fun z hz => hb z (by simp [hz])
      split at he
      · rcases List.mem_cons.1 he with rfl | he
        · exact ha x (by simp)
        · exact ih a (y :: b) ha' hb e he
      · split at he
        · rcases List.mem_cons.1 he with rfl | he
          · exact hb y (by simp)
          · exact ih (x :: a) b ha hb' e he
        · rcases List.mem_append.1 he with he | he
          · split at he
            · cases he
            · rcases List.mem_singleton.1 he with rfl
              exact hb y (by simp)
          · exact ih a b ha' hb' e he
theorem srt_diffL : ∀ (f : Nat) (a b : List Ent), Srt a → Srt b → SrtE (diffL f a b) := by
  intro f
  induction f with
  | zero => intro a b _ _; exact List.Pairwise.nil
  | succ f ih =>
    intro a b ha hb
    match a, b with
    | [], [] => exact List.Pairwise.nil
    | x :: a, [] =>
      rw [diffL]
      have h := List.pairwise_cons.1 ha
      exact List.pairwise_cons.2 ⟨diffL_lb _ _ _ _ h.1 (by simp), ih a [] h.2 hb⟩
    | [], y :: b =>
      rw [diffL]
      have h := List.pairwise_cons.1 hb
      exact List.pairwise_cons.2 ⟨diffL_lb _ _ _ _ (by simp) h.1, ih [] b ha h.2⟩
    | x :: a, y :: b =>
      rw [diffL]
      have h := List.pairwise_cons.1 ha
      have h' := List.pairwise_cons.1 hb
      split
      · rename_i hxy
        refine List.pairwise_cons.2 ⟨diffL_lb _ _ _ _ h.1 (fun z hz => ?_), ih a (y :: b) h.2 hb⟩
        rcases List.mem_cons.1 hz with rfl | hz
        · exact hxy
        · exact klt_trans hxy (h'.1 z hz)
      · split
        · rename_i hyx
          refine List.pairwise_cons.2 ⟨diffL_lb _ _ _ _ (fun z hz => ?_) h'.1, ih (x :: a) b ha h'.2⟩
          rcases List.mem_cons.1 hz with rfl | hz
          · exact hyx
          · exact klt_trans hyx (h.1 z hz)
        · rename_i hxy hyx
          have he : x.1 = y.1 := Classical.byContradiction fun hne => by
            have := klt_tri (by simpa using hxy) hne
            exact hyx this
          split
          · exact ih a b h.2 h'.2
          · refine List.pairwise_cons.2 ⟨diffL_lb _ _ _ _ (fun z hz => ?_) h'.1, ih a b h.2 h'.2⟩
            show klt y.1 z.1 = true
            rw [← he]; exact h.1 z hz
theorem srt_diffM {a b : List Ent} (ha : Srt a) (hb : Srt b) : SrtE (diffM a b) := srt_diffL _ _ _ ha hb
theorem klist_ext : ∀ (l1 l2 : List ByteArray), l1.Pairwise (fun a b => klt a b = true) → l2.Pairwise (fun a b => klt a b = true) → (∀ x, x ∈ l1 ↔ x ∈ l2) → l1 = l2
  | [], [], _, _, _ => rfl
  | [], b :: l2, _, _, h => by have := (h b).2 (by simp); cases this
  | a :: l1, [], _, _, h => by have := (h a).1 (by simp); cases this
  | a :: l1, b :: l2, h1, h2, h => by
    obtain ⟨p1, q1⟩ := List.pairwise_cons.1 h1
    obtain ⟨p2, q2⟩ := List.pairwise_cons.1 h2
    have hab : a = b := by
      rcases List.mem_cons.1 ((h a).1 (by simp)) with e | e
      · exact e
      · rcases List.mem_cons.1 ((h b).2 (by simp)) with e' | e'
        · exact e'.symm
        · have := klt_asymm (p2 a e); rw [p1 b e'] at this; cases this
    subst hab
    refine congrArg _ (klist_ext l1 l2 q1 q2 fun x => ⟨fun hx => ?_, fun hx => ?_⟩)
    · rcases List.mem_cons.1 ((h x).1 (by simp [hx])) with rfl | e
      · have := p1 x hx; rw [klt_irrefl] at this; cases this
      · exact e
    · rcases List.mem_cons.1 ((h x).2 (by simp [hx])) with rfl | e
      · have := p2 x hx; rw [klt_irrefl] at this; cases this
      · exact e
theorem fndE_mem {es : List Edt} {k : ByteArray} {x : Edt} (h : fndE es k = some x) : x ∈ es ∧ x.key = k := by
  refine ⟨List.mem_of_find?_eq_some h, ?_⟩
  have := List.find?_some h
  simpa using this
theorem fndE_of {es : List Edt} (hs : SrtE es) {x : Edt} (h : x ∈ es) : fndE es x.key = some x := by
  induction es with
  | nil => cases h
  | cons e es ih =>
    obtain ⟨p, q⟩ := List.pairwise_cons.1 hs
    rcases List.mem_cons.1 h with rfl | h
    · simp [fndE]
    · have hne : ¬ e.key = x.key := klt_ne (p x h)
      rw [fndE, List.find?_cons]
      simp only [hne, decide_false]
      exact ih q h
theorem fndE_none {es : List Edt} {k : ByteArray} (h : fndE es k = none) : ∀ e ∈ es, e.key ≠ k := fun e he hk => by
  have := List.find?_eq_none.1 h e he
  simp [hk] at this
theorem mem_clash {l r : List Edt} (hl : SrtE l) {k : ByteArray} : k ∈ clashL l r ↔ ∃ e ∈ r, ∃ x ∈ l, e.key = k ∧ x.key = k ∧ x ≠ e := by
  unfold clashL keysL
  simp only [List.mem_map, List.mem_filter]
  constructor
  · rintro ⟨e, ⟨he, hc⟩, rfl⟩
    unfold isClash at hc
    split at hc
    · cases hc
    · rename_i x hx
      obtain ⟨h1, h2⟩ := fndE_mem hx
      exact ⟨e, he, x, h1, rfl, h2, by simpa using hc⟩
  · rintro ⟨e, he, x, hx, rfl, hk, hne⟩
    refine ⟨e, ⟨he, ?_⟩, rfl⟩
    unfold isClash
    rw [← hk, fndE_of hl hx]
    simpa using hne
theorem srt_clash {l r : List Edt} (hr : SrtE r) : (clashL l r).Pairwise (fun a b => klt a b = true) := by
  unfold clashL keysL
  rw [List.pairwise_map]
  exact List.Pairwise.filter _ hr
theorem clash_comm {l r : List Edt} (hl : SrtE l) (hr : SrtE r) : clashL l r = clashL r l :=
  klist_ext _ _ (srt_clash hr) (srt_clash hl) fun k => by
    rw [mem_clash hl, mem_clash hr]
    constructor
    · rintro ⟨e, he, x, hx, h1, h2, h3⟩; exact ⟨x, hx, e, he, h2, h1, fun h => h3 h.symm⟩
    · rintro ⟨e, he, x, hx, h1, h2, h3⟩; exact ⟨x, hx, e, he, h2, h1, fun h => h3 h.symm⟩
end Go.Proofs.Ytmafbodblpgcjaa.AM
