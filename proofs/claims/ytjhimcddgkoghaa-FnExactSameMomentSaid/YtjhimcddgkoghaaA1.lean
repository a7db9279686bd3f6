/- The laws' helpers over data: how much an argument holds, lists of strings compared, marked, held. -/
import Derived.Test.YtjhimcddgkoghaaAd
import Derived.Test.YtjhimcddgkoghaaN16
namespace Go.Proofs.Ytjhimcddgkoghaa.AM
open Go Go.RowKit
set_option linter.unusedVariables false
set_option maxRecDepth 100000

def szF {α : Type} (g : α → Nat) : List α → Int → Int
  | [], l => l
  | e :: es, l => if l - g e < 0 then -1 else szF g es (l - g e)
def szL {α : Type} (g : α → Nat) (es : List α) (l : Int) : Int := if l - es.length < 0 then -1 else szF g es (l - es.length)
theorem szF_le {α : Type} {g : α → Nat} : ∀ {es : List α} {l : Int}, 0 ≤ szF g es l → szF g es l ≤ l ∧ ∀ e ∈ es, (g e : Int) ≤ l
  | [], l, h => ⟨Int.le_refl _, by simp⟩
  | e :: es, l, h => by
    unfold szF at h ⊢
    split at h
    · omega
    · rename_i hn
      rw [if_neg hn]
      obtain ⟨h1, h2⟩ := szF_le h
      refine ⟨by omega, fun x hx => ?_⟩
      rcases List.mem_cons.1 hx with rfl | hx
      · omega
      · have := h2 x hx; omega
theorem szL_le {α : Type} {g : α → Nat} {es : List α} {l : Int} (h : 0 ≤ szL g es l) : szL g es l ≤ l ∧ (es.length : Int) ≤ l ∧ ∀ e ∈ es, (g e : Int) ≤ l := by
  unfold szL at h ⊢
  split at h
  · omega
  · rename_i hn
    rw [if_neg hn]
    obtain ⟨h1, h2⟩ := szF_le h
    exact ⟨by omega, by omega, fun e he => by have := h2 e he; omega⟩
abbrev eSz (e : Ent) : Nat := e.1.size
abbrev xSz (e : Edt) : Nat := e.key.size
attribute [local irreducible] ACode AOps AOps2 RetG RetM Pre ACG

theorem ac_szEntry {e : Ent} {l : Int} (hk : e.1.size ≤ maxLen) (h0 : 0 ≤ l) (h1 : l ≤ 1048576) : AC Try.prog 211 [entA e, .v (.int .i64 l)] ⟨.v (.int .i64 (if l - e.1.size < 0 then -1 else l - e.1.size)), []⟩ := by
  unfold maxLen at hk
  by_cases hn : l - e.1.size < 0
  · rw [if_pos hn]
    refine r_of Th_ok (by kernel_rfl) Try.func211 rfl Try.ntmps211 Try.results211 (by kernel_rfl) rfl ?_; conv => whnf
    repeat (first | (refine r_put (p_bin (by first | exact b_lt_t (by omega) | exact b_lt_f (by omega) | exact b_le_t (by omega) | exact b_le_f (by omega) | exact b_gt_t (by omega) | exact b_gt_f (by omega) | exact b_ge_t (by omega) | exact b_ge_f (by omega) | exact b_eq_t (by omega) | exact b_eq_f (by omega) | exact b_ne_t (by omega) | exact b_ne_f (by omega) | exact b_sub rfl (by omega) (by omega) | exact b_add rfl (by omega) (by omega)) rfl rfl rfl) rfl rfl ?_; conv => whnf) | (refine r_put (p_idx (getA _ (by assumption)) rfl rfl rfl) rfl rfl ?_; conv => whnf) | (refine r_put (p_lenm rfl ⟨_, _, _, _, rfl⟩) rfl rfl ?_; conv => whnf) | (refine r_put (p_lenom rfl rfl ⟨_, _, _, _, rfl⟩) rfl rfl ?_; conv => whnf) | (refine r_put (p_len (y := .v (.string _)) rfl rfl rfl) rfl rfl ?_; conv => whnf) | (refine r_put (p_len rfl rfl ⟨_, _, _, _, rfl⟩) rfl rfl ?_; conv => whnf))
    exact r_ret1 rfl trivial
  · rw [if_neg hn]
    refine r_of Th_ok (by kernel_rfl) Try.func211 rfl Try.ntmps211 Try.results211 (by kernel_rfl) rfl ?_; conv => whnf
    repeat (first | (refine r_put (p_bin (by first | exact b_lt_t (by omega) | exact b_lt_f (by omega) | exact b_le_t (by omega) | exact b_le_f (by omega) | exact b_gt_t (by omega) | exact b_gt_f (by omega) | exact b_ge_t (by omega) | exact b_ge_f (by omega) | exact b_eq_t (by omega) | exact b_eq_f (by omega) | exact b_ne_t (by omega) | exact b_ne_f (by omega) | exact b_sub rfl (by omega) (by omega) | exact b_add rfl (by omega) (by omega)) rfl rfl rfl) rfl rfl ?_; conv => whnf) | (refine r_put (p_idx (getA _ (by assumption)) rfl rfl rfl) rfl rfl ?_; conv => whnf) | (refine r_put (p_lenm rfl ⟨_, _, _, _, rfl⟩) rfl rfl ?_; conv => whnf) | (refine r_put (p_lenom rfl rfl ⟨_, _, _, _, rfl⟩) rfl rfl ?_; conv => whnf) | (refine r_put (p_len (y := .v (.string _)) rfl rfl rfl) rfl rfl ?_; conv => whnf) | (refine r_put (p_len rfl rfl ⟨_, _, _, _, rfl⟩) rfl rfl ?_; conv => whnf))
    exact r_ret1 rfl trivial

theorem szF_drop {α : Type} {g : α → Nat} {es : List α} {k : Nat} {l : Int} (h : k < es.length) : szF g (es.drop k) l = if l - g es[k] < 0 then -1 else szF g (es.drop (k + 1)) (l - g es[k]) := by
  rw [List.drop_eq_getElem_cons h, szF]
theorem ac_szEntryS {es : List Ent} {l : Int} (hm : es.length ≤ maxLen) (hk : ∀ e ∈ es, e.1.size ≤ maxLen) (h0 : 0 ≤ l) (h1 : l ≤ 1048576) : AC Try.prog 121 [.lst 2 (es.map entA), .v (.int .i64 l)] ⟨.v (.int .i64 (szL eSz es l)), []⟩ := by
  unfold maxLen at hm
  by_cases hn : l - es.length < 0
  · rw [szL, if_pos hn]
    refine r_of Th_ok (by kernel_rfl) Try.func121 rfl Try.ntmps121 Try.results121 (by kernel_rfl) rfl ?_; conv => whnf
    repeat (first | (refine r_put (p_bin (by first | exact b_lt_t (by omega) | exact b_lt_f (by omega) | exact b_le_t (by omega) | exact b_le_f (by omega) | exact b_gt_t (by omega) | exact b_gt_f (by omega) | exact b_ge_t (by omega) | exact b_ge_f (by omega) | exact b_eq_t (by omega) | exact b_eq_f (by omega) | exact b_ne_t (by omega) | exact b_ne_f (by omega) | exact b_sub rfl (by omega) (by omega) | exact b_add rfl (by omega) (by omega)) rfl rfl rfl) rfl rfl ?_; conv => whnf) | (refine r_put (p_idx (getA _ (by assumption)) rfl rfl rfl) rfl rfl ?_; conv => whnf) | (refine r_put (p_lenm rfl ⟨_, _, _, _, rfl⟩) rfl rfl ?_; conv => whnf) | (refine r_put (p_lenom rfl rfl ⟨_, _, _, _, rfl⟩) rfl rfl ?_; conv => whnf) | (refine r_put (p_len (y := .v (.string _)) rfl rfl rfl) rfl rfl ?_; conv => whnf) | (refine r_put (p_len rfl rfl ⟨_, _, _, _, rfl⟩) rfl rfl ?_; conv => whnf))
    exact r_ret1 rfl trivial
  · rw [szL, if_neg hn]
    refine r_of Th_ok (by kernel_rfl) Try.func121 rfl Try.ntmps121 Try.results121 (by kernel_rfl) rfl ?_; conv => whnf
    repeat (first | (refine r_put (p_bin (by first | exact b_lt_t (by omega) | exact b_lt_f (by omega) | exact b_le_t (by omega) | exact b_le_f (by omega) | exact b_gt_t (by omega) | exact b_gt_f (by omega) | exact b_ge_t (by omega) | exact b_ge_f (by omega) | exact b_eq_t (by omega) | exact b_eq_f (by omega) | exact b_ne_t (by omega) | exact b_ne_f (by omega) | exact b_sub rfl (by omega) (by omega) | exact b_add rfl (by omega) (by omega)) rfl rfl rfl) rfl rfl ?_; conv => whnf) | (refine r_put (p_idx (getA _ (by assumption)) rfl rfl rfl) rfl rfl ?_; conv => whnf) | (refine r_put (p_lenm rfl ⟨_, _, _, _, rfl⟩) rfl rfl ?_; conv => whnf) | (refine r_put (p_lenom rfl rfl ⟨_, _, _, _, rfl⟩) rfl rfl ?_; conv => whnf) | (refine r_put (p_len (y := .v (.string _)) rfl rfl rfl) rfl rfl ?_; conv => whnf) | (refine r_put (p_len rfl rfl ⟨_, _, _, _, rfl⟩) rfl rfl ?_; conv => whnf))
    refine r_loop (ι := { p : Nat × Int // p.1 ≤ es.length ∧ 0 ≤ p.2 ∧ p.2 ≤ l ∧ szF eSz (es.drop p.1) p.2 = szF eSz es (l - es.length) }) (fun p => ⟨[(0, .lst 2 (es.map entA)), (1, .v (.int .i64 p.1.2)), (5, .v (.int .i64 (p.1.1 : Int)))], []⟩) (fun p => es.length - p.1.1) ⟨(0, l - es.length), by simp, by omega, by omega, rfl⟩ (by refine ⟨?_, ?_⟩ <;> (repeat (first | trivial | exact ⟨rfl, trivial⟩ | refine ⟨rfl, ?_⟩ | refine ⟨.inl ⟨rfl, rfl⟩, ?_⟩ | refine ⟨.inr ⟨_, _, rfl, rfl, rfl, rfl, rfl⟩, ?_⟩))) ?_
    rintro ⟨⟨k, cur⟩, hkl, hc0, hc1, hsz⟩
    simp only at hkl hc0 hc1 hsz ⊢
    conv => whnf
    by_cases hlt : k < es.length
    · have hd := szF_drop (g := eSz) (l := cur) hlt
      rw [hsz] at hd
      by_cases hneg : cur - (es[k]).1.size < 0
      · rw [if_pos hneg] at hd
        rw [hd]
        repeat (first | first | (refine r_put (p_bin (by first | exact b_lt_t (by omega) | exact b_lt_f (by omega) | exact b_le_t (by omega) | exact b_le_f (by omega) | exact b_gt_t (by omega) | exact b_gt_f (by omega) | exact b_ge_t (by omega) | exact b_ge_f (by omega) | exact b_eq_t (by omega) | exact b_eq_f (by omega) | exact b_ne_t (by omega) | exact b_ne_f (by omega) | exact b_sub rfl (by omega) (by omega) | exact b_add rfl (by omega) (by omega)) rfl rfl rfl) rfl rfl ?_; conv => whnf) | (refine r_put (p_idx (getA _ (by assumption)) rfl rfl rfl) rfl rfl ?_; conv => whnf) | (refine r_put (p_lenm rfl ⟨_, _, _, _, rfl⟩) rfl rfl ?_; conv => whnf) | (refine r_put (p_lenom rfl rfl ⟨_, _, _, _, rfl⟩) rfl rfl ?_; conv => whnf) | (refine r_put (p_len (y := .v (.string _)) rfl rfl rfl) rfl rfl ?_; conv => whnf) | (refine r_put (p_len rfl rfl ⟨_, _, _, _, rfl⟩) rfl rfl ?_; conv => whnf) | (refine r_put (p_call (ac_szEntry (hk _ (List.getElem_mem hlt)) (by omega) (by omega)) rfl (.inl rfl) trivial rfl rfl) rfl rfl ?_; rw [if_pos hneg]; conv => whnf))
        exact r_ret1 rfl trivial
      · rw [if_neg hneg] at hd
        repeat (first | first | (refine r_put (p_bin (by first | exact b_lt_t (by omega) | exact b_lt_f (by omega) | exact b_le_t (by omega) | exact b_le_f (by omega) | exact b_gt_t (by omega) | exact b_gt_f (by omega) | exact b_ge_t (by omega) | exact b_ge_f (by omega) | exact b_eq_t (by omega) | exact b_eq_f (by omega) | exact b_ne_t (by omega) | exact b_ne_f (by omega) | exact b_sub rfl (by omega) (by omega) | exact b_add rfl (by omega) (by omega)) rfl rfl rfl) rfl rfl ?_; conv => whnf) | (refine r_put (p_idx (getA _ (by assumption)) rfl rfl rfl) rfl rfl ?_; conv => whnf) | (refine r_put (p_lenm rfl ⟨_, _, _, _, rfl⟩) rfl rfl ?_; conv => whnf) | (refine r_put (p_lenom rfl rfl ⟨_, _, _, _, rfl⟩) rfl rfl ?_; conv => whnf) | (refine r_put (p_len (y := .v (.string _)) rfl rfl rfl) rfl rfl ?_; conv => whnf) | (refine r_put (p_len rfl rfl ⟨_, _, _, _, rfl⟩) rfl rfl ?_; conv => whnf) | (refine r_put (p_call (ac_szEntry (hk _ (List.getElem_mem hlt)) (by omega) (by omega)) rfl (.inl rfl) trivial rfl rfl) rfl rfl ?_; rw [if_neg hneg]; conv => whnf))
        exact ⟨⟨(k + 1, cur - (es[k]).1.size), by simp; omega, by omega, by omega, hd.symm⟩, by refine ⟨?_, ?_⟩ <;> (repeat (first | trivial | exact ⟨rfl, trivial⟩ | refine ⟨rfl, ?_⟩ | refine ⟨.inl ⟨rfl, rfl⟩, ?_⟩ | refine ⟨.inr ⟨_, _, rfl, rfl, rfl, rfl, rfl⟩, ?_⟩)), by simp; omega⟩
    · have hkk : k = es.length := by omega
      rw [hkk, List.drop_length] at hsz
      rw [← hsz]
      repeat (first | (refine r_put (p_bin (by first | exact b_lt_t (by omega) | exact b_lt_f (by omega) | exact b_le_t (by omega) | exact b_le_f (by omega) | exact b_gt_t (by omega) | exact b_gt_f (by omega) | exact b_ge_t (by omega) | exact b_ge_f (by omega) | exact b_eq_t (by omega) | exact b_eq_f (by omega) | exact b_ne_t (by omega) | exact b_ne_f (by omega) | exact b_sub rfl (by omega) (by omega) | exact b_add rfl (by omega) (by omega)) rfl rfl rfl) rfl rfl ?_; conv => whnf) | (refine r_put (p_idx (getA _ (by assumption)) rfl rfl rfl) rfl rfl ?_; conv => whnf) | (refine r_put (p_lenm rfl ⟨_, _, _, _, rfl⟩) rfl rfl ?_; conv => whnf) | (refine r_put (p_lenom rfl rfl ⟨_, _, _, _, rfl⟩) rfl rfl ?_; conv => whnf) | (refine r_put (p_len (y := .v (.string _)) rfl rfl rfl) rfl rfl ?_; conv => whnf) | (refine r_put (p_len rfl rfl ⟨_, _, _, _, rfl⟩) rfl rfl ?_; conv => whnf))
      exact r_ret1 rfl trivial
end Go.Proofs.Ytjhimcddgkoghaa.AM
