/- FirstLine on both sides; its law over data. -/
import Derived.Test.YtnkceemdnefomaaE19
namespace Go.Proofs.Ytnkceemdnefomaa.AM
open Go Go.RowKit
set_option linter.unusedVariables false
set_option linter.unusedSimpArgs false
set_option maxRecDepth 100000
/-- the first parent, its first parent, and so on -/
def tl (cs : List Cmt) : Nat → Nat → List Int
  | 0, _ => []
  | n + 1, id => match parsN cs id with
    | [] => []
    | p :: _ => (p : Int) :: tl cs n p
theorem tl_len {cs : List Cmt} : ∀ n id, (tl cs n id).length ≤ n
  | 0, _ => Nat.le_refl _
  | n + 1, id => by
    unfold tl
    split
    · simp
    · rename_i p _ _
      have := tl_len (cs := cs) n p
      simp; omega
theorem tl_fuel {cs : List Cmt} (hb : stoB cs = true) : ∀ (n m id : Nat), 1 ≤ id → id ≤ n → id ≤ m → id ≤ cs.length → tl cs n id = tl cs m id := by
  intro n
  induction n with
  | zero => intro m id h1 h2; omega
  | succ n ih =>
    intro m id h1 h2 h3 h4
    obtain ⟨m, rfl⟩ : ∃ m', m = m' + 1 := ⟨m - 1, by omega⟩
    unfold tl
    split
    · rfl
    · rename_i p ps hp
      obtain ⟨q1, q2⟩ := parsN_lt hb h1 h4 p (by rw [hp]; simp)
      rw [ih m p q1 (by omega) (by omega) (by omega)]
theorem tl_nil {cs : List Cmt} {id : Nat} (h : (parsN cs id).length = 0) : tl cs id id = [] := by
  cases id with
  | zero => rfl
  | succ n => unfold tl; rw [List.eq_nil_of_length_eq_zero h]
theorem tl_cons {cs : List Cmt} (hb : stoB cs = true) {id : Nat} (h1 : 1 ≤ id) (h2 : id ≤ cs.length) (h : 0 < (parsN cs id).length) : tl cs id id = (((parsN cs id)[0] : Nat) : Int) :: tl cs (parsN cs id)[0] (parsN cs id)[0] := by
  obtain ⟨n, rfl⟩ : ∃ n, id = n + 1 := ⟨id - 1, by omega⟩
  obtain ⟨p, ps, hp⟩ : ∃ p ps, parsN cs (n + 1) = p :: ps := List.exists_cons_of_length_pos h
  have e0 : (parsN cs (n + 1))[0] = p := by simp [hp]
  obtain ⟨q1, q2⟩ := parsN_lt hb h1 h2 p (by rw [hp]; simp)
  have : tl cs (n + 1) (n + 1) = (p : Int) :: tl cs n p := by rw [tl, hp]
  rw [this, e0, tl_fuel hb n p p q1 (by omega) (Nat.le_refl _) (by omega)]
def lineN (cs : List Cmt) (id : Nat) : List Int := (id : Int) :: tl cs id id
noncomputable def lineR (cs : List Cmt) (id : Int) : List Int × Int := if askR cs [id] = 0 then (lineN cs id.toNat, 0) else ([], askR cs [id])
theorem lineN_len (cs : List Cmt) (id : Nat) : (lineN cs id).length ≤ id + 1 := by
  have := tl_len (cs := cs) id id
  simp [lineN]; omega
theorem lineR_len (cs : List Cmt) (id : Int) : (lineR cs id).1.length ≤ 61 := by
  unfold lineR
  split
  · rename_i h
    obtain ⟨hb, hids⟩ := askR_0 h
    obtain ⟨a1, a2⟩ := hids id (by simp)
    have := lineN_len cs id.toNat
    have := (sto_len hb).2
    show (lineN _ _).length ≤ 61
    omega
  · simp
theorem parsN_eq {cs : List Cmt} {id : Nat} (h1 : 1 ≤ id) (h2 : id ≤ cs.length) : parsN cs id = ((cs[id - 1]'(by omega)).1).map Int.toNat := by
  unfold parsN
  rw [List.getElem?_eq_getElem (by omega)]
attribute [local irreducible] ACode AOps RetG RetM Pre ACG
theorem ac_sFirstLine {cs : List Cmt} {id : Int} (hm : cs.length ≤ maxLen) (hc : comOK maxLen cs) : AC Try.prog 66 [.lst 2 (cs.map comA), .v (.int .i64 id)] ⟨.tup [.own 0, .v (.int .i64 (lineR cs id).2)], [⟨3, 1, (lineR cs id).1.map intA⟩]⟩ := by
  have h1 := ac_l03Ask (ids := [id]) hm hc (by unfold maxLen; simp)
  unfold maxLen at hm
  unfold lineR
  by_cases hl : cs.length ≤ 4096
  case neg =>
    have h0 := askR_long (ids := [id]) hl
    rw [h0, if_neg (by omega)]
    refine r_of Th_ok (by kernel_rfl) Try.func66 rfl Try.ntmps66 Try.results66 (by kernel_rfl) rfl ?_; conv => whnf
    repeat (first | first | (refine r_put (p_bin (by first | exact b_lt_t (by omega) | exact b_lt_f (by omega) | exact b_le_t (by omega) | exact b_le_f (by omega) | exact b_gt_t (by omega) | exact b_gt_f (by omega) | exact b_ge_t (by omega) | exact b_ge_f (by omega) | exact b_eq_t (by omega) | exact b_eq_f (by omega) | exact b_ne_t (by omega) | exact b_ne_f (by omega) | exact b_sub rfl (by omega) (by omega) | exact b_add rfl (by omega) (by omega)) rfl rfl rfl) rfl rfl ?_; conv => whnf) | (refine r_put (p_idx (getA _ (by assumption)) rfl rfl rfl) rfl rfl ?_; conv => whnf) | (refine r_put (p_lenm rfl ⟨_, _, _, _, rfl⟩) rfl rfl ?_; conv => whnf) | (refine r_put (p_lenom rfl rfl ⟨_, _, _, _, rfl⟩) rfl rfl ?_; conv => whnf) | (refine r_put (p_len (y := .v (.string _)) rfl rfl rfl) rfl rfl ?_; conv => whnf) | (refine r_put (p_len rfl rfl ⟨_, _, _, _, rfl⟩) rfl rfl ?_; conv => whnf) | (refine And.intro (by kernel_rfl) ?_; conv => whnf))
    exact r_tupOV rfl rfl rfl
  by_cases h0 : askR cs [id] = 0
  case neg =>
    rw [if_neg h0]
    refine r_of Th_ok (by kernel_rfl) Try.func66 rfl Try.ntmps66 Try.results66 (by kernel_rfl) rfl ?_; conv => whnf
    repeat (first | first | (refine r_put (p_bin (by first | exact b_lt_t (by omega) | exact b_lt_f (by omega) | exact b_le_t (by omega) | exact b_le_f (by omega) | exact b_gt_t (by omega) | exact b_gt_f (by omega) | exact b_ge_t (by omega) | exact b_ge_f (by omega) | exact b_eq_t (by omega) | exact b_eq_f (by omega) | exact b_ne_t (by omega) | exact b_ne_f (by omega) | exact b_sub rfl (by omega) (by omega) | exact b_add rfl (by omega) (by omega)) rfl rfl rfl) rfl rfl ?_; conv => whnf) | (refine r_put (p_idx (getA _ (by assumption)) rfl rfl rfl) rfl rfl ?_; conv => whnf) | (refine r_put (p_lenm rfl ⟨_, _, _, _, rfl⟩) rfl rfl ?_; conv => whnf) | (refine r_put (p_lenom rfl rfl ⟨_, _, _, _, rfl⟩) rfl rfl ?_; conv => whnf) | (refine r_put (p_len (y := .v (.string _)) rfl rfl rfl) rfl rfl ?_; conv => whnf) | (refine r_put (p_len rfl rfl ⟨_, _, _, _, rfl⟩) rfl rfl ?_; conv => whnf) | (refine And.intro (by kernel_rfl) ?_; conv => whnf) | (refine r_step (p_call (h1) rfl (by first | exact .inl rfl | exact .inr ⟨by simp [flatA, flatL], by first | exact flat_o0 | exact flat_o1 (by first | exact flat_map flat_str _ | exact flat_map flat_ent _ | exact flat_map flat_edt _ | exact flat_map flat_ref _ | exact flat_map flat_int _) | exact flat_o2 (by first | exact flat_map flat_str _ | exact flat_map flat_ent _ | exact flat_map flat_edt _ | exact flat_map flat_ref _ | exact flat_map flat_int _) (by first | exact flat_map flat_str _ | exact flat_map flat_ent _ | exact flat_map flat_edt _ | exact flat_map flat_ref _ | exact flat_map flat_int _)⟩) (by first | exact trivial | exact ⟨⟨rfl, rfl, rfl⟩, trivial⟩ | exact ⟨⟨rfl, rfl, rfl⟩, ⟨rfl, rfl, rfl⟩, trivial⟩ | exact ⟨⟨rfl, rfl, rfl⟩, ⟨rfl, rfl, rfl⟩, ⟨rfl, rfl, rfl⟩, trivial⟩) rfl rfl) rfl rfl (fun e => by first | exact .inl rfl | contradiction | exact .inr (.inl (by kernel_rfl))) ?_; conv => whnf))
    exact r_tupOV rfl rfl rfl
  obtain ⟨hb, hids⟩ := askR_0 h0
  obtain ⟨hl1, hl2⟩ := sto_len hb
  obtain ⟨a1, a2⟩ := hids id (by simp)
  obtain ⟨id, rfl⟩ : ∃ a' : Nat, id = (a' : Int) := ⟨id.toNat, by omega⟩
  rw [if_pos h0]
  rw [h0] at h1
  simp only [Int.toNat_natCast]
  have hln := lineN_len cs id
  refine r_of Th_ok (by kernel_rfl) Try.func66 rfl Try.ntmps66 Try.results66 (by kernel_rfl) rfl ?_; conv => whnf
  repeat (first | first | (refine r_put (p_bin (by first | exact b_lt_t (by omega) | exact b_lt_f (by omega) | exact b_le_t (by omega) | exact b_le_f (by omega) | exact b_gt_t (by omega) | exact b_gt_f (by omega) | exact b_ge_t (by omega) | exact b_ge_f (by omega) | exact b_eq_t (by omega) | exact b_eq_f (by omega) | exact b_ne_t (by omega) | exact b_ne_f (by omega) | exact b_sub rfl (by omega) (by omega) | exact b_add rfl (by omega) (by omega)) rfl rfl rfl) rfl rfl ?_; conv => whnf) | (refine r_put (p_idx (getA _ (by assumption)) rfl rfl rfl) rfl rfl ?_; conv => whnf) | (refine r_put (p_lenm rfl ⟨_, _, _, _, rfl⟩) rfl rfl ?_; conv => whnf) | (refine r_put (p_lenom rfl rfl ⟨_, _, _, _, rfl⟩) rfl rfl ?_; conv => whnf) | (refine r_put (p_len (y := .v (.string _)) rfl rfl rfl) rfl rfl ?_; conv => whnf) | (refine r_put (p_len rfl rfl ⟨_, _, _, _, rfl⟩) rfl rfl ?_; conv => whnf) | (refine And.intro (by kernel_rfl) ?_; conv => whnf) | (refine r_step (p_call (h1) rfl (by first | exact .inl rfl | exact .inr ⟨by simp [flatA, flatL], by first | exact flat_o0 | exact flat_o1 (by first | exact flat_map flat_str _ | exact flat_map flat_ent _ | exact flat_map flat_edt _ | exact flat_map flat_ref _ | exact flat_map flat_int _) | exact flat_o2 (by first | exact flat_map flat_str _ | exact flat_map flat_ent _ | exact flat_map flat_edt _ | exact flat_map flat_ref _ | exact flat_map flat_int _) (by first | exact flat_map flat_str _ | exact flat_map flat_ent _ | exact flat_map flat_edt _ | exact flat_map flat_ref _ | exact flat_map flat_int _)⟩) (by first | exact trivial | exact ⟨⟨rfl, rfl, rfl⟩, trivial⟩ | exact ⟨⟨rfl, rfl, rfl⟩, ⟨rfl, rfl, rfl⟩, trivial⟩ | exact ⟨⟨rfl, rfl, rfl⟩, ⟨rfl, rfl, rfl⟩, ⟨rfl, rfl, rfl⟩, trivial⟩) rfl rfl) rfl rfl (fun e => by first | exact .inl rfl | contradiction | exact .inr (.inl (by kernel_rfl))) ?_; conv => whnf))
  refine r_loop (ι := { p : List Int × Nat // 1 ≤ p.2 ∧ p.2 ≤ cs.length ∧ p.1 ++ tl cs p.2 p.2 = lineN cs id }) (fun p => ⟨[(0, .lst 2 (cs.map comA)), (1, .v (.int .i64 (p.1.2 : Int))), (7, .own 22)], [(22, ⟨3, 1, p.1.1.map intA⟩)]⟩) (fun p => p.1.2) ⟨([(id : Int)], id), by omega, by omega, rfl⟩ (by refine ⟨?_, ?_⟩ <;> (repeat (first | trivial | exact ⟨rfl, trivial⟩ | refine ⟨rfl, ?_⟩ | refine ⟨.inl ⟨rfl, rfl⟩, ?_⟩ | refine ⟨.inr ⟨_, _, rfl, rfl, rfl, rfl, rfl⟩, ?_⟩))) ?_
  rintro ⟨⟨out, k⟩, k1, k2, k3⟩
  dsimp only at k1 k2 k3 ⊢
  conv => whnf
  have hk : k - 1 < cs.length := by omega
  have hpn := parsN_eq k1 k2
  have hol : out.length ≤ 61 := by
    have : (out ++ tl cs k k).length = (lineN cs id).length := by rw [k3]
    rw [List.length_append] at this; omega
  by_cases h0' : 0 < (cs[k - 1]).1.length
  case neg =>
    have hnil : tl cs k k = [] := tl_nil (by rw [hpn, List.length_map]; omega)
    rw [hnil, List.append_nil] at k3
    rw [← k3]
    repeat (first | (refine r_put (p_bin (b_sub (c := ((k - 1 : Nat) : Int)) (by omega) (by omega) (by omega)) rfl rfl rfl) rfl rfl ?_; conv => whnf) | first | (refine r_put (p_bin (by first | exact b_lt_t (by omega) | exact b_lt_f (by omega) | exact b_le_t (by omega) | exact b_le_f (by omega) | exact b_gt_t (by omega) | exact b_gt_f (by omega) | exact b_ge_t (by omega) | exact b_ge_f (by omega) | exact b_eq_t (by omega) | exact b_eq_f (by omega) | exact b_ne_t (by omega) | exact b_ne_f (by omega) | exact b_sub rfl (by omega) (by omega) | exact b_add rfl (by omega) (by omega)) rfl rfl rfl) rfl rfl ?_; conv => whnf) | (refine r_put (p_idx (getA _ (by assumption)) rfl rfl rfl) rfl rfl ?_; conv => whnf) | (refine r_put (p_lenm rfl ⟨_, _, _, _, rfl⟩) rfl rfl ?_; conv => whnf) | (refine r_put (p_lenom rfl rfl ⟨_, _, _, _, rfl⟩) rfl rfl ?_; conv => whnf) | (refine r_put (p_len (y := .v (.string _)) rfl rfl rfl) rfl rfl ?_; conv => whnf) | (refine r_put (p_len rfl rfl ⟨_, _, _, _, rfl⟩) rfl rfl ?_; conv => whnf) | (refine And.intro (by kernel_rfl) ?_; conv => whnf))
    exact r_tupOV rfl rfl rfl
  have hpl : 0 < (parsN cs k).length := by rw [hpn, List.length_map]; exact h0'
  have hco := tl_cons hb k1 k2 hpl
  have hp0 := parsN_lt hb k1 k2 _ (List.getElem_mem hpl)
  have hpe : (cs[k - 1]).1[0] = (((parsN cs k)[0] : Nat) : Int) := by
    obtain ⟨_, g1, _, _⟩ := (sto_par hb hk).2.2 0 h0'
    have : (parsN cs k)[0] = ((cs[k - 1]).1[0]).toNat := by simp [hpn]
    rw [this]; omega
  have hgp : ((cs[k - 1]).1.map intA)[0]? = some (AV.v (.int .i64 (((parsN cs k)[0] : Nat) : Int))) := by
    rw [List.getElem?_map, List.getElem?_eq_getElem h0', ← hpe]; rfl
  rw [hco] at k3
  generalize (parsN cs k)[0] = p at *
  have hap : out ++ [(p : Int)] = out ++ [(p : Int)] := rfl
  repeat (first | (refine r_put (p_bin (b_sub (c := ((k - 1 : Nat) : Int)) (by omega) (by omega) (by omega)) rfl rfl rfl) rfl rfl ?_; conv => whnf) | (refine r_put (p_idx (j := 0) hgp rfl rfl rfl) rfl rfl ?_; conv => whnf) | first | (refine r_put (p_bin (by first | exact b_lt_t (by omega) | exact b_lt_f (by omega) | exact b_le_t (by omega) | exact b_le_f (by omega) | exact b_gt_t (by omega) | exact b_gt_f (by omega) | exact b_ge_t (by omega) | exact b_ge_f (by omega) | exact b_eq_t (by omega) | exact b_eq_f (by omega) | exact b_ne_t (by omega) | exact b_ne_f (by omega) | exact b_sub rfl (by omega) (by omega) | exact b_add rfl (by omega) (by omega)) rfl rfl rfl) rfl rfl ?_; conv => whnf) | (refine r_put (p_idx (getA _ (by assumption)) rfl rfl rfl) rfl rfl ?_; conv => whnf) | (refine r_put (p_lenm rfl ⟨_, _, _, _, rfl⟩) rfl rfl ?_; conv => whnf) | (refine r_put (p_lenom rfl rfl ⟨_, _, _, _, rfl⟩) rfl rfl ?_; conv => whnf) | (refine r_put (p_len (y := .v (.string _)) rfl rfl rfl) rfl rfl ?_; conv => whnf) | (refine r_put (p_len rfl rfl ⟨_, _, _, _, rfl⟩) rfl rfl ?_; conv => whnf) | (refine And.intro (by kernel_rfl) ?_; conv => whnf) | (refine r_step (p_app1r (f := intA) (p : Int) _ hap (by omega) rfl rfl rfl rfl rfl rfl rfl) rfl rfl (fun e => by first | exact .inl rfl | contradiction | exact .inr (.inl (by kernel_rfl))) ?_; conv => whnf))
  exact ⟨⟨(out ++ [(p : Int)], p), hp0.1, by omega, by rw [List.append_assoc]; exact k3⟩, by refine ⟨?_, ?_⟩ <;> (repeat (first | trivial | exact ⟨rfl, trivial⟩ | refine ⟨rfl, ?_⟩ | refine ⟨.inl ⟨rfl, rfl⟩, ?_⟩ | refine ⟨.inr ⟨_, _, rfl, rfl, rfl, rfl, rfl⟩, ?_⟩)), by simp; omega⟩
theorem ac_iFirstLine {cs : List Cmt} {id : Int} (hm : cs.length ≤ maxLen) (hc : comOK maxLen cs) : AC Try.prog 67 [.lst 2 (cs.map comA), .v (.int .i64 id)] ⟨.tup [.own 0, .v (.int .i64 (lineR cs id).2)], [⟨3, 1, (lineR cs id).1.map intA⟩]⟩ := by
  have h1 := ac_graphCode (ids := [id]) hm hc (by unfold maxLen; simp)
  unfold lineR
  by_cases h0 : askR cs [id] = 0
  case neg =>
    rw [if_neg h0]
    refine r_of Th_ok (by kernel_rfl) Try.func67 rfl Try.ntmps67 Try.results67 (by kernel_rfl) rfl ?_; conv => whnf
    repeat (first | first | (refine r_put (p_bin (by first | exact b_lt_t (by omega) | exact b_lt_f (by omega) | exact b_le_t (by omega) | exact b_le_f (by omega) | exact b_gt_t (by omega) | exact b_gt_f (by omega) | exact b_ge_t (by omega) | exact b_ge_f (by omega) | exact b_eq_t (by omega) | exact b_eq_f (by omega) | exact b_ne_t (by omega) | exact b_ne_f (by omega) | exact b_sub rfl (by omega) (by omega) | exact b_add rfl (by omega) (by omega)) rfl rfl rfl) rfl rfl ?_; conv => whnf) | (refine r_put (p_idx (getA _ (by assumption)) rfl rfl rfl) rfl rfl ?_; conv => whnf) | (refine r_put (p_lenm rfl ⟨_, _, _, _, rfl⟩) rfl rfl ?_; conv => whnf) | (refine r_put (p_lenom rfl rfl ⟨_, _, _, _, rfl⟩) rfl rfl ?_; conv => whnf) | (refine r_put (p_len (y := .v (.string _)) rfl rfl rfl) rfl rfl ?_; conv => whnf) | (refine r_put (p_len rfl rfl ⟨_, _, _, _, rfl⟩) rfl rfl ?_; conv => whnf) | (refine And.intro (by kernel_rfl) ?_; conv => whnf) | (refine r_step (p_call (h1) rfl (by first | exact .inl rfl | exact .inr ⟨by simp [flatA, flatL], by first | exact flat_o0 | exact flat_o1 (by first | exact flat_map flat_str _ | exact flat_map flat_ent _ | exact flat_map flat_edt _ | exact flat_map flat_ref _ | exact flat_map flat_int _) | exact flat_o2 (by first | exact flat_map flat_str _ | exact flat_map flat_ent _ | exact flat_map flat_edt _ | exact flat_map flat_ref _ | exact flat_map flat_int _) (by first | exact flat_map flat_str _ | exact flat_map flat_ent _ | exact flat_map flat_edt _ | exact flat_map flat_ref _ | exact flat_map flat_int _)⟩) (by first | exact trivial | exact ⟨⟨rfl, rfl, rfl⟩, trivial⟩ | exact ⟨⟨rfl, rfl, rfl⟩, ⟨rfl, rfl, rfl⟩, trivial⟩ | exact ⟨⟨rfl, rfl, rfl⟩, ⟨rfl, rfl, rfl⟩, ⟨rfl, rfl, rfl⟩, trivial⟩) rfl rfl) rfl rfl (fun e => by first | exact .inl rfl | contradiction | exact .inr (.inl (by kernel_rfl))) ?_; conv => whnf))
    exact r_tupOV rfl rfl rfl
  obtain ⟨hb, hids⟩ := askR_0 h0
  obtain ⟨hl1, hl2⟩ := sto_len hb
  obtain ⟨a1, a2⟩ := hids id (by simp)
  obtain ⟨id, rfl⟩ : ∃ a' : Nat, id = (a' : Int) := ⟨id.toNat, by omega⟩
  rw [if_pos h0]
  rw [h0] at h1
  simp only [Int.toNat_natCast]
  have hln := lineN_len cs id
  have h2 := ac_nodeOf (id := id) hb (by omega) (by omega)
  obtain ⟨id, rfl⟩ : ∃ n, id = n + 1 := ⟨id - 1, by omega⟩
  refine r_of Th_ok (by kernel_rfl) Try.func67 rfl Try.ntmps67 Try.results67 (by kernel_rfl) rfl ?_; conv => whnf
  repeat (first | first | (refine r_put (p_bin (by first | exact b_lt_t (by omega) | exact b_lt_f (by omega) | exact b_le_t (by omega) | exact b_le_f (by omega) | exact b_gt_t (by omega) | exact b_gt_f (by omega) | exact b_ge_t (by omega) | exact b_ge_f (by omega) | exact b_eq_t (by omega) | exact b_eq_f (by omega) | exact b_ne_t (by omega) | exact b_ne_f (by omega) | exact b_sub rfl (by omega) (by omega) | exact b_add rfl (by omega) (by omega)) rfl rfl rfl) rfl rfl ?_; conv => whnf) | (refine r_put (p_idx (getA _ (by assumption)) rfl rfl rfl) rfl rfl ?_; conv => whnf) | (refine r_put (p_lenm rfl ⟨_, _, _, _, rfl⟩) rfl rfl ?_; conv => whnf) | (refine r_put (p_lenom rfl rfl ⟨_, _, _, _, rfl⟩) rfl rfl ?_; conv => whnf) | (refine r_put (p_len (y := .v (.string _)) rfl rfl rfl) rfl rfl ?_; conv => whnf) | (refine r_put (p_len rfl rfl ⟨_, _, _, _, rfl⟩) rfl rfl ?_; conv => whnf) | (refine And.intro (by kernel_rfl) ?_; conv => whnf) | (refine r_step (p_call (h1) rfl (by first | exact .inl rfl | exact .inr ⟨by simp [flatA, flatL], by first | exact flat_o0 | exact flat_o1 (by first | exact flat_map flat_str _ | exact flat_map flat_ent _ | exact flat_map flat_edt _ | exact flat_map flat_ref _ | exact flat_map flat_int _) | exact flat_o2 (by first | exact flat_map flat_str _ | exact flat_map flat_ent _ | exact flat_map flat_edt _ | exact flat_map flat_ref _ | exact flat_map flat_int _) (by first | exact flat_map flat_str _ | exact flat_map flat_ent _ | exact flat_map flat_edt _ | exact flat_map flat_ref _ | exact flat_map flat_int _)⟩) (by first | exact trivial | exact ⟨⟨rfl, rfl, rfl⟩, trivial⟩ | exact ⟨⟨rfl, rfl, rfl⟩, ⟨rfl, rfl, rfl⟩, trivial⟩ | exact ⟨⟨rfl, rfl, rfl⟩, ⟨rfl, rfl, rfl⟩, ⟨rfl, rfl, rfl⟩, trivial⟩) rfl rfl) rfl rfl (fun e => by first | exact .inl rfl | contradiction | exact .inr (.inl (by kernel_rfl))) ?_; conv => whnf) | (refine r_step (p_call (h2) rfl (by first | exact .inl rfl | exact .inr ⟨by simp [flatA, flatL], by first | exact flat_o0 | exact flat_o1 (by first | exact flat_map flat_str _ | exact flat_map flat_ent _ | exact flat_map flat_edt _ | exact flat_map flat_ref _ | exact flat_map flat_int _) | exact flat_o2 (by first | exact flat_map flat_str _ | exact flat_map flat_ent _ | exact flat_map flat_edt _ | exact flat_map flat_ref _ | exact flat_map flat_int _) (by first | exact flat_map flat_str _ | exact flat_map flat_ent _ | exact flat_map flat_edt _ | exact flat_map flat_ref _ | exact flat_map flat_int _)⟩) (by first | exact trivial | exact ⟨⟨rfl, rfl, rfl⟩, trivial⟩ | exact ⟨⟨rfl, rfl, rfl⟩, ⟨rfl, rfl, rfl⟩, trivial⟩ | exact ⟨⟨rfl, rfl, rfl⟩, ⟨rfl, rfl, rfl⟩, ⟨rfl, rfl, rfl⟩, trivial⟩) rfl rfl) rfl rfl (fun e => by first | exact .inl rfl | contradiction | exact .inr (.inl (by kernel_rfl))) ?_; conv => whnf))
  refine r_loop (ι := { p : List Int × Nat // 1 ≤ p.2 ∧ p.2 ≤ cs.length ∧ p.1 ++ tl cs p.2 p.2 = lineN cs (id + 1) }) (fun p => ⟨[(7, .ptr (nodeA cs p.1.2 p.1.2)), (8, .own 24)], [(24, ⟨3, 1, p.1.1.map intA⟩)]⟩) (fun p => p.1.2) ⟨([((id + 1 : Nat) : Int)], id + 1), by omega, by omega, rfl⟩ (by refine ⟨?_, ?_⟩ <;> (repeat (first | trivial | exact ⟨rfl, trivial⟩ | refine ⟨rfl, ?_⟩ | refine ⟨.inl ⟨rfl, rfl⟩, ?_⟩ | refine ⟨.inr ⟨_, _, rfl, rfl, rfl, rfl, rfl⟩, ?_⟩))) ?_
  rintro ⟨⟨out, k⟩, k1, k2, k3⟩
  dsimp only at k1 k2 k3 ⊢
  have hpn := parsN_eq k1 k2
  have hol : out.length ≤ 61 := by
    have : (out ++ tl cs k k).length = (lineN cs (id + 1)).length := by rw [k3]
    rw [List.length_append] at this; omega
  have hpl2 := parsN_len hb k
  by_cases h0' : 0 < (parsN cs k).length
  case neg =>
    have hnil : tl cs k k = [] := tl_nil (by omega)
    rw [hnil, List.append_nil] at k3
    rw [← k3]
    obtain ⟨k, rfl⟩ : ∃ n, k = n + 1 := ⟨k - 1, by omega⟩
    conv => whnf
    repeat (first | first | (refine r_put (p_bin (by first | exact b_lt_t (by omega) | exact b_lt_f (by omega) | exact b_le_t (by omega) | exact b_le_f (by omega) | exact b_gt_t (by omega) | exact b_gt_f (by omega) | exact b_ge_t (by omega) | exact b_ge_f (by omega) | exact b_eq_t (by omega) | exact b_eq_f (by omega) | exact b_ne_t (by omega) | exact b_ne_f (by omega) | exact b_sub rfl (by omega) (by omega) | exact b_add rfl (by omega) (by omega)) rfl rfl rfl) rfl rfl ?_; conv => whnf) | (refine r_put (p_idx (getA _ (by assumption)) rfl rfl rfl) rfl rfl ?_; conv => whnf) | (refine r_put (p_lenm rfl ⟨_, _, _, _, rfl⟩) rfl rfl ?_; conv => whnf) | (refine r_put (p_lenom rfl rfl ⟨_, _, _, _, rfl⟩) rfl rfl ?_; conv => whnf) | (refine r_put (p_len (y := .v (.string _)) rfl rfl rfl) rfl rfl ?_; conv => whnf) | (refine r_put (p_len rfl rfl ⟨_, _, _, _, rfl⟩) rfl rfl ?_; conv => whnf) | (refine And.intro (by kernel_rfl) ?_; conv => whnf))
    exact r_tupOV rfl rfl rfl
  have hco := tl_cons hb k1 k2 h0'
  have hp0 := parsN_lt hb k1 k2 _ (List.getElem_mem h0')
  rw [hco] at k3
  obtain ⟨k, rfl⟩ : ∃ n, k = n + 1 := ⟨k - 1, by omega⟩
  have hgp : ((parsN cs (k + 1)).map fun p => AV.ptr (nodeA cs k p))[0]? = some (AV.ptr (nodeA cs (parsN cs (k + 1))[0] (parsN cs (k + 1))[0])) := by
    rw [List.getElem?_map, List.getElem?_eq_getElem h0', nodeA_fuel hb (parsN cs (k + 1))[0] k _ hp0.1 (Nat.le_refl _) (by omega) (by omega)]; rfl
  generalize (parsN cs (k + 1))[0] = p at *
  obtain ⟨p, rfl⟩ : ∃ n, p = n + 1 := ⟨p - 1, by omega⟩
  have hap : out ++ [((p + 1 : Nat) : Int)] = out ++ [((p + 1 : Nat) : Int)] := rfl
  conv => whnf
  repeat (first | (refine r_put (p_idx (j := 0) hgp rfl rfl rfl) rfl rfl ?_; conv => whnf) | first | (refine r_put (p_bin (by first | exact b_lt_t (by omega) | exact b_lt_f (by omega) | exact b_le_t (by omega) | exact b_le_f (by omega) | exact b_gt_t (by omega) | exact b_gt_f (by omega) | exact b_ge_t (by omega) | exact b_ge_f (by omega) | exact b_eq_t (by omega) | exact b_eq_f (by omega) | exact b_ne_t (by omega) | exact b_ne_f (by omega) | exact b_sub rfl (by omega) (by omega) | exact b_add rfl (by omega) (by omega)) rfl rfl rfl) rfl rfl ?_; conv => whnf) | (refine r_put (p_idx (getA _ (by assumption)) rfl rfl rfl) rfl rfl ?_; conv => whnf) | (refine r_put (p_lenm rfl ⟨_, _, _, _, rfl⟩) rfl rfl ?_; conv => whnf) | (refine r_put (p_lenom rfl rfl ⟨_, _, _, _, rfl⟩) rfl rfl ?_; conv => whnf) | (refine r_put (p_len (y := .v (.string _)) rfl rfl rfl) rfl rfl ?_; conv => whnf) | (refine r_put (p_len rfl rfl ⟨_, _, _, _, rfl⟩) rfl rfl ?_; conv => whnf) | (refine And.intro (by kernel_rfl) ?_; conv => whnf) | (refine r_step (p_app1r (f := intA) ((p + 1 : Nat) : Int) _ hap (by omega) rfl rfl rfl rfl rfl rfl rfl) rfl rfl (fun e => by first | exact .inl rfl | contradiction | exact .inr (.inl (by kernel_rfl))) ?_; conv => whnf))
  exact ⟨⟨(out ++ [((p + 1 : Nat) : Int)], p + 1), hp0.1, by omega, by rw [List.append_assoc]; exact k3⟩, by refine ⟨?_, ?_⟩ <;> (repeat (first | trivial | exact ⟨rfl, trivial⟩ | refine ⟨rfl, ?_⟩ | refine ⟨.inl ⟨rfl, rfl⟩, ?_⟩ | refine ⟨.inr ⟨_, _, rfl, rfl, rfl, rfl, rfl⟩, ?_⟩)), by simp; omega⟩
set_option maxHeartbeats 1000000 in
theorem law_FirstLine {cs : List Cmt} (hm : cs.length ≤ maxLen) (hc : comOK maxLen cs) {a : Int} (ha : (Lit.int .i64 a).wf = true) : AC Try.prog 15 [.lst 2 (cs.map comA), .v (.int .i64 a)] ⟨.v (.bool true), []⟩ := by
  by_cases hsz : szCS cs 1048576 < 0
  · refine r_of Th_ok (by kernel_rfl) Try.func15 rfl Try.ntmps15 Try.results15 (by kernel_rfl) rfl ?_; conv => whnf
    repeat (first | first | (refine r_put (p_bin (by first | exact b_lt_t (by omega) | exact b_lt_f (by omega) | exact b_le_t (by omega) | exact b_le_f (by omega) | exact b_gt_t (by omega) | exact b_gt_f (by omega) | exact b_ge_t (by omega) | exact b_ge_f (by omega) | exact b_eq_t (by omega) | exact b_eq_f (by omega) | exact b_ne_t (by omega) | exact b_ne_f (by omega) | exact b_sub rfl (by omega) (by omega) | exact b_add rfl (by omega) (by omega)) rfl rfl rfl) rfl rfl ?_; conv => whnf) | (refine r_put (p_idx (getA _ (by assumption)) rfl rfl rfl) rfl rfl ?_; conv => whnf) | (refine r_put (p_lenm rfl ⟨_, _, _, _, rfl⟩) rfl rfl ?_; conv => whnf) | (refine r_put (p_lenom rfl rfl ⟨_, _, _, _, rfl⟩) rfl rfl ?_; conv => whnf) | (refine r_put (p_len (y := .v (.string _)) rfl rfl rfl) rfl rfl ?_; conv => whnf) | (refine r_put (p_len rfl rfl ⟨_, _, _, _, rfl⟩) rfl rfl ?_; conv => whnf) | (refine r_step (p_call (ac_szCommitS hm hc (by omega) (by omega)) rfl (by first | exact .inl rfl | exact .inr ⟨by simp [flatA, flatL], by first | exact flat_o0 | exact flat_o1 (by first | exact flat_map flat_str _ | exact flat_map flat_ent _ | exact flat_map flat_edt _ | exact flat_map flat_ref _ | exact flat_map flat_int _) | exact flat_o2 (by first | exact flat_map flat_str _ | exact flat_map flat_ent _ | exact flat_map flat_edt _ | exact flat_map flat_ref _ | exact flat_map flat_int _) (by first | exact flat_map flat_str _ | exact flat_map flat_ent _ | exact flat_map flat_edt _ | exact flat_map flat_ref _ | exact flat_map flat_int _)⟩) (by first | exact trivial | exact ⟨⟨rfl, rfl, rfl⟩, trivial⟩ | exact ⟨⟨rfl, rfl, rfl⟩, ⟨rfl, rfl, rfl⟩, trivial⟩ | exact ⟨⟨rfl, rfl, rfl⟩, ⟨rfl, rfl, rfl⟩, ⟨rfl, rfl, rfl⟩, trivial⟩) rfl rfl) rfl rfl (fun e => by first | exact .inl rfl | contradiction | exact .inr (.inl (by kernel_rfl))) ?_; conv => whnf))
    exact r_ret1 rfl trivial
  obtain ⟨hm2, hc2⟩ := comOK_sz (by omega : 0 ≤ szCS cs 1048576)
  have htot := szCS_tot (by omega : 0 ≤ szCS cs 1048576)
  have hl := lineR_len cs a
  have h1 := ac_sFirstLine (id := a) hm hc
  have h2 := ac_iFirstLine (id := a) hm hc
  have hkA := kA_le cs 1
  generalize lineR cs a = R at h1 h2 hl
  have e1 : R.1.length ≤ maxLen := by unfold maxLen; omega
  refine r_of Th_ok (by kernel_rfl) Try.func15 rfl Try.ntmps15 Try.results15 (by kernel_rfl) rfl ?_; conv => whnf
  repeat (first | first | (refine r_put (p_bin (by first | exact b_lt_t (by omega) | exact b_lt_f (by omega) | exact b_le_t (by omega) | exact b_le_f (by omega) | exact b_gt_t (by omega) | exact b_gt_f (by omega) | exact b_ge_t (by omega) | exact b_ge_f (by omega) | exact b_eq_t (by omega) | exact b_eq_f (by omega) | exact b_ne_t (by omega) | exact b_ne_f (by omega) | exact b_sub rfl (by omega) (by omega) | exact b_add rfl (by omega) (by omega)) rfl rfl rfl) rfl rfl ?_; conv => whnf) | (refine r_put (p_idx (getA _ (by assumption)) rfl rfl rfl) rfl rfl ?_; conv => whnf) | (refine r_put (p_lenm rfl ⟨_, _, _, _, rfl⟩) rfl rfl ?_; conv => whnf) | (refine r_put (p_lenom rfl rfl ⟨_, _, _, _, rfl⟩) rfl rfl ?_; conv => whnf) | (refine r_put (p_len (y := .v (.string _)) rfl rfl rfl) rfl rfl ?_; conv => whnf) | (refine r_put (p_len rfl rfl ⟨_, _, _, _, rfl⟩) rfl rfl ?_; conv => whnf) | (refine And.intro (by kernel_rfl) ?_; conv => whnf) | (refine r_step (p_call (ac_szCommitS hm hc (by omega) (by omega)) rfl (by first | exact .inl rfl | exact .inr ⟨by simp [flatA, flatL], by first | exact flat_o0 | exact flat_o1 (by first | exact flat_map flat_str _ | exact flat_map flat_ent _ | exact flat_map flat_edt _ | exact flat_map flat_ref _ | exact flat_map flat_int _) | exact flat_o2 (by first | exact flat_map flat_str _ | exact flat_map flat_ent _ | exact flat_map flat_edt _ | exact flat_map flat_ref _ | exact flat_map flat_int _) (by first | exact flat_map flat_str _ | exact flat_map flat_ent _ | exact flat_map flat_edt _ | exact flat_map flat_ref _ | exact flat_map flat_int _)⟩) (by first | exact trivial | exact ⟨⟨rfl, rfl, rfl⟩, trivial⟩ | exact ⟨⟨rfl, rfl, rfl⟩, ⟨rfl, rfl, rfl⟩, trivial⟩ | exact ⟨⟨rfl, rfl, rfl⟩, ⟨rfl, rfl, rfl⟩, ⟨rfl, rfl, rfl⟩, trivial⟩) rfl rfl) rfl rfl (fun e => by first | exact .inl rfl | contradiction | exact .inr (.inl (by kernel_rfl))) ?_; conv => whnf) | (refine r_step (p_call (ac_toCommitSD hm2 (fun c h => ⟨(hc2 c h).1, (hc2 c h).2.1⟩)) rfl (by first | exact .inl rfl | exact .inr ⟨by simp [flatA, flatL], by first | exact flat_o0 | exact flat_o1 (by first | exact flat_map flat_str _ | exact flat_map flat_ent _ | exact flat_map flat_edt _ | exact flat_map flat_ref _ | exact flat_map flat_int _) | exact flat_o2 (by first | exact flat_map flat_str _ | exact flat_map flat_ent _ | exact flat_map flat_edt _ | exact flat_map flat_ref _ | exact flat_map flat_int _) (by first | exact flat_map flat_str _ | exact flat_map flat_ent _ | exact flat_map flat_edt _ | exact flat_map flat_ref _ | exact flat_map flat_int _)⟩) (by first | exact trivial | exact ⟨⟨rfl, rfl, rfl⟩, trivial⟩ | exact ⟨⟨rfl, rfl, rfl⟩, ⟨rfl, rfl, rfl⟩, trivial⟩ | exact ⟨⟨rfl, rfl, rfl⟩, ⟨rfl, rfl, rfl⟩, ⟨rfl, rfl, rfl⟩, trivial⟩) rfl rfl) rfl rfl (fun e => by first | exact .inl rfl | contradiction | exact .inr (.inl (by kernel_rfl))) ?_; conv => whnf) | (refine r_step (p_call (h1) rfl (by first | exact .inl rfl | exact .inr ⟨by simp [flatA, flatL], by first | exact flat_o0 | exact flat_o1 (by first | exact flat_map flat_str _ | exact flat_map flat_ent _ | exact flat_map flat_edt _ | exact flat_map flat_ref _ | exact flat_map flat_int _) | exact flat_o2 (by first | exact flat_map flat_str _ | exact flat_map flat_ent _ | exact flat_map flat_edt _ | exact flat_map flat_ref _ | exact flat_map flat_int _) (by first | exact flat_map flat_str _ | exact flat_map flat_ent _ | exact flat_map flat_edt _ | exact flat_map flat_ref _ | exact flat_map flat_int _)⟩) (by first | exact trivial | exact ⟨⟨rfl, rfl, rfl⟩, trivial⟩ | exact ⟨⟨rfl, rfl, rfl⟩, ⟨rfl, rfl, rfl⟩, trivial⟩ | exact ⟨⟨rfl, rfl, rfl⟩, ⟨rfl, rfl, rfl⟩, ⟨rfl, rfl, rfl⟩, trivial⟩) rfl rfl) rfl rfl (fun e => by first | exact .inl rfl | contradiction | exact .inr (.inl (by kernel_rfl))) ?_; conv => whnf) | (refine r_step (p_call (h2) rfl (by first | exact .inl rfl | exact .inr ⟨by simp [flatA, flatL], by first | exact flat_o0 | exact flat_o1 (by first | exact flat_map flat_str _ | exact flat_map flat_ent _ | exact flat_map flat_edt _ | exact flat_map flat_ref _ | exact flat_map flat_int _) | exact flat_o2 (by first | exact flat_map flat_str _ | exact flat_map flat_ent _ | exact flat_map flat_edt _ | exact flat_map flat_ref _ | exact flat_map flat_int _) (by first | exact flat_map flat_str _ | exact flat_map flat_ent _ | exact flat_map flat_edt _ | exact flat_map flat_ref _ | exact flat_map flat_int _)⟩) (by first | exact trivial | exact ⟨⟨rfl, rfl, rfl⟩, trivial⟩ | exact ⟨⟨rfl, rfl, rfl⟩, ⟨rfl, rfl, rfl⟩, trivial⟩ | exact ⟨⟨rfl, rfl, rfl⟩, ⟨rfl, rfl, rfl⟩, ⟨rfl, rfl, rfl⟩, trivial⟩) rfl rfl) rfl rfl (fun e => by first | exact .inl rfl | contradiction | exact .inr (.inl (by kernel_rfl))) ?_; conv => whnf) | (refine r_step (p_call (ac_eqIntS (l := R.1) e1) rfl (by first | exact .inl rfl | exact .inr ⟨by simp [flatA, flatL], by first | exact flat_o0 | exact flat_o1 (by first | exact flat_map flat_str _ | exact flat_map flat_ent _ | exact flat_map flat_edt _ | exact flat_map flat_ref _ | exact flat_map flat_int _) | exact flat_o2 (by first | exact flat_map flat_str _ | exact flat_map flat_ent _ | exact flat_map flat_edt _ | exact flat_map flat_ref _ | exact flat_map flat_int _) (by first | exact flat_map flat_str _ | exact flat_map flat_ent _ | exact flat_map flat_edt _ | exact flat_map flat_ref _ | exact flat_map flat_int _)⟩) (by first | exact trivial | exact ⟨⟨rfl, rfl, rfl⟩, trivial⟩ | exact ⟨⟨rfl, rfl, rfl⟩, ⟨rfl, rfl, rfl⟩, trivial⟩ | exact ⟨⟨rfl, rfl, rfl⟩, ⟨rfl, rfl, rfl⟩, ⟨rfl, rfl, rfl⟩, trivial⟩) rfl rfl) rfl rfl (fun e => by first | exact .inl rfl | contradiction | exact .inr (.inl (by kernel_rfl))) ?_; conv => whnf) | (refine r_step (p_call (ac_eqCommitS hm (fun c h => ⟨(hc c h).1, (hc c h).2.1⟩)) rfl (by first | exact .inl rfl | exact .inr ⟨by simp [flatA, flatL], by first | exact flat_o0 | exact flat_o1 (by first | exact flat_map flat_str _ | exact flat_map flat_ent _ | exact flat_map flat_edt _ | exact flat_map flat_ref _ | exact flat_map flat_int _) | exact flat_o2 (by first | exact flat_map flat_str _ | exact flat_map flat_ent _ | exact flat_map flat_edt _ | exact flat_map flat_ref _ | exact flat_map flat_int _) (by first | exact flat_map flat_str _ | exact flat_map flat_ent _ | exact flat_map flat_edt _ | exact flat_map flat_ref _ | exact flat_map flat_int _)⟩) (by first | exact trivial | exact ⟨⟨rfl, rfl, rfl⟩, trivial⟩ | exact ⟨⟨rfl, rfl, rfl⟩, ⟨rfl, rfl, rfl⟩, trivial⟩ | exact ⟨⟨rfl, rfl, rfl⟩, ⟨rfl, rfl, rfl⟩, ⟨rfl, rfl, rfl⟩, trivial⟩) rfl rfl) rfl rfl (fun e => by first | exact .inl rfl | contradiction | exact .inr (.inl (by kernel_rfl))) ?_; conv => whnf) | (refine r_step (p_callm (ac_markCommitS (l := cs) (k0 := 1) (by omega) (by omega) (by omega) (by omega)) rfl rfl rfl rfl rfl rfl rfl) rfl rfl (fun e => by first | exact .inl rfl | contradiction | exact .inr (.inl (by kernel_rfl))) ?_; conv => whnf) | (refine r_step (p_callm (ac_markIntS (l := R.1) (k0 := 1) (by omega) (by omega) (by omega)) rfl rfl rfl rfl rfl rfl rfl) rfl rfl (fun e => by first | exact .inl rfl | contradiction | exact .inr (.inl (by kernel_rfl))) ?_; conv => whnf) | (refine r_step (p_call (ac_heldIntS (n := R.1.length) (k0 := 1) (by omega) (by omega) (by omega)) rfl (by first | exact .inl rfl | exact .inr ⟨by simp [flatA, flatL], by first | exact flat_o0 | exact flat_o1 (by first | exact flat_map flat_str _ | exact flat_map flat_ent _ | exact flat_map flat_edt _ | exact flat_map flat_ref _ | exact flat_map flat_int _) | exact flat_o2 (by first | exact flat_map flat_str _ | exact flat_map flat_ent _ | exact flat_map flat_edt _ | exact flat_map flat_ref _ | exact flat_map flat_int _) (by first | exact flat_map flat_str _ | exact flat_map flat_ent _ | exact flat_map flat_edt _ | exact flat_map flat_ref _ | exact flat_map flat_int _)⟩) (by first | exact trivial | exact ⟨⟨rfl, rfl, rfl⟩, trivial⟩ | exact ⟨⟨rfl, rfl, rfl⟩, ⟨rfl, rfl, rfl⟩, trivial⟩ | exact ⟨⟨rfl, rfl, rfl⟩, ⟨rfl, rfl, rfl⟩, ⟨rfl, rfl, rfl⟩, trivial⟩) rfl rfl) rfl rfl (fun e => by first | exact .inl rfl | contradiction | exact .inr (.inl (by kernel_rfl))) ?_; conv => whnf))
  exact r_ret1 rfl trivial
end Go.Proofs.Ytnkceemdnefomaa.AM
