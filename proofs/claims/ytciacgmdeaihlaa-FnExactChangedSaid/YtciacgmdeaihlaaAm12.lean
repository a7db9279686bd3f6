/- The machine over data: a function's body walked gives the call's contract. -/
import Derived.Test.YtciacgmdeaihlaaAm11
namespace Go.Proofs.Ytciacgmdeaihlaa.AM
open Go Go.RowKit
set_option linter.unusedVariables false

/-- a result's datum -/
def rvA (s : St) : ResultVar → AV
  | .tmp t => s.sl t
  | .cell a _ => match s.sl a with
    | .optr l 0 [] 0 => match s.hp l with
      | some ob => (ob.xs[0]?).getD .any
      | none => .any
    | .ptr x => x
    | _ => .any
def rvOK (Θ : Tab) (s : St) : ResultVar → Prop
  | .tmp _ => True
  | .cell a t => (Θ.look t).known = true ∧ isAggA (rvA s (.cell a t)) = (Θ.look t).isAgg ∧ asz (rvA s (.cell a t)) = (Θ.look t).size ∧ ((∃ l ob x, s.sl a = .optr l 0 [] 0 ∧ s.hp l = some ob ∧ ob.xs[0]? = some x) ∨ ∃ x, s.sl a = .ptr x)
def rvsOK (Θ : Tab) (s : St) : List ResultVar → Prop
  | [] => True
  | r :: rs => rvOK Θ s r ∧ rvsOK Θ s rs
/-- a datum handed back: Ls are the rows that go with it -/
def retA (s : St) (Ls : List Nat) (x y : AV) : Prop :=
  (x = y ∧ (match y with | .v _ | .agg _ | .lst _ _ | .any => True | _ => False)) ∨ (∃ l k, x = .own l ∧ y = .own k ∧ Ls[k]? = some l) ∨ ∃ l ob, x = .own l ∧ s.hp l = some ob ∧ y = .lst ob.sz ob.xs ∧ l ∉ Ls
def retAs (s : St) (Ls : List Nat) : List AV → List AV → Prop
  | [], [] => True
  | x :: xs, y :: ys => retA s Ls x y ∧ retAs s Ls xs ys
  | _, _ => False
def retObs (s : St) : List Nat → List OB → Prop
  | [], [] => True
  | l :: ls, ob :: obs => s.hp l = some ob ∧ retObs s ls obs
  | _, _ => False
def outVals (rs : List ResultVar) (v : AV) : List AV :=
  match rs with
  | [_] => [v]
  | _ => match v with | .tup ys => ys | _ => [.own 0, .own 0, .own 0, .own 0, .own 0, .own 0]
def isTupOK (rs : List ResultVar) (v : AV) : Prop :=
  match rs with
  | [_] => True
  | _ => ∃ ys, v = .tup ys
def Ret (Θ : Tab) (rs : List ResultVar) (out : Out) (s : St) : Prop :=
  ∃ Ls, Ls.Nodup ∧ retObs s Ls out.obs ∧ rvsOK Θ s rs ∧ isTupOK rs out.val ∧ retAs s Ls (rs.map (rvA s)) (outVals rs out.val)
def RetQ (Θ : Tab) (rs : List ResultVar) (out : Out) : AEx → St → Prop
  | .normal, s | .ret, s => Ret Θ rs out s
  | _, _ => False
def St.init (args : List AV) : St := ⟨fun j => (args[j]?).getD .any, fun _ => none⟩

section
variable {P : Program} {Θ : Tab} {W : World} {M : Option Value} {S0 : Nat → Prop} {n : Nat} {s : St} {a : Act} {w : World} {S : Nat → Prop} {B : Nat → Nat} {V : Nat → Value} {tmps : Array Value}

theorem rv_run (hΘ : TabOK P Θ) (h : SimW W M S0 s tmps w S B V) (r : ResultVar) (hr : rvOK Θ s r) :
    ∃ v, (match r with | .tmp t => pure (tmps.getD t undef) | .cell a t => do loadVar t (← asAddr (tmps.getD a undef)) : Sem Value).run P w = .ok v w ∧ RV S w s.hp B V (rvA s r) v := by
  cases r with
  | tmp t => exact ⟨_, rfl, h.sl t⟩
  | cell a t =>
    obtain ⟨hk, hagg, hsz, hx⟩ := hr
    obtain ⟨i0, hi0, hs0, hag, _⟩ := ti_info (hΘ t) hk
    have hsl := h.sl a
    rcases hx with ⟨l, ob, x, hx, ho, hq⟩ | ⟨x, hx⟩
    · have hrv : rvA s (.cell a t) = x := by simp [rvA, hx, ho, hq]
      rw [hrv] at hagg hsz ⊢
      rw [hx] at hsl
      unfold RV at hsl
      obtain ⟨ob', ho', hpx⟩ := hsl
      rw [ho] at ho'; cases ho'
      have hne : ob.xs ≠ [] := fun e => by rw [e] at hq; simp at hq
      obtain ⟨cs, cap, cur, hr, ha, hV, hb, hns, hheap, hc, hm, hs, ht⟩ := (h.hp l ob ho).block hne
      obtain ⟨qs, k1, k2, k3, k4⟩ := RL.at 0 hr hq
      have hcell : ∀ j u, qs[j]? = some u → w.cell? ⟨B l, 0 + j, none⟩ = some u := fun j u hu => by
        have h1 := k4 _ _ hu
        simp only [List.take_zero, aszs, Nat.zero_add] at h1
        rw [← ht, List.getElem?_take] at h1
        rw [cell_of_row w (B l) (0 + j) cur ob.e (0, 0) hheap]
        split at h1
        · simpa using h1
        · cases h1
      obtain ⟨u, hu, eu, h1⟩ := data_rv (s := s) (B := B) (V := V) k1 hagg
      have hrun := run_load_at (P := P) (w := w) t hi0 (by rw [hs0, ← hsz]; exact (RA.size _ _ k1).symm) hcell (hag w) h1
      rw [eu] at hrun
      refine ⟨u, ?_, hu⟩
      simp only [hpx, asAddr, Sem.run_bind, Sem.run_pure, Result.andThen_ok]
      simpa [Instr.loadAt, Instr.sureAddr] using hrun
    · have hrv : rvA s (.cell a t) = x := by simp [rvA, hx]
      rw [hrv] at hagg hsz ⊢
      rw [hx] at hsl
      unfold RV at hsl
      obtain ⟨b, off, us, e, hb, hr, hc⟩ := hsl
      obtain ⟨u, hu, eu, h1⟩ := data_rv (s := s) (B := B) (V := V) hr hagg
      have hrun := run_load_at (P := P) (w := w) t hi0 (by rw [hs0, ← hsz]; exact (RA.size _ _ hr).symm) hc (hag w) h1
      rw [eu] at hrun
      refine ⟨u, ?_, hu⟩
      simp only [e, asAddr, Sem.run_bind, Sem.run_pure, Result.andThen_ok]
      simpa [Instr.loadAt, Instr.sureAddr] using hrun
theorem rvs_run (hΘ : TabOK P Θ) (h : SimW W M S0 s tmps w S B V) : ∀ (rs : List ResultVar), rvsOK Θ s rs →
    ∃ vs, (rs.mapM (fun | .tmp t => pure (tmps.getD t undef) | .cell a t => do loadVar t (← asAddr (tmps.getD a undef)) : ResultVar → Sem Value)).run P w = .ok vs w ∧ RVs S w s.hp B V (rs.map (rvA s)) vs ∧ vs.length = rs.length
  | [], _ => ⟨[], by simp, by simp only [List.map_nil]; unfold RVs; rfl, rfl⟩
  | r :: rs, hr => by
    obtain ⟨v, h1, h2⟩ := rv_run hΘ h r hr.1
    obtain ⟨vs, h3, h4, h5⟩ := rvs_run hΘ h rs hr.2
    refine ⟨v :: vs, ?_, by simp only [List.map_cons]; unfold RVs; exact ⟨v, vs, rfl, h2, h4⟩, by simp [h5]⟩
    simp only [List.mapM_cons, Sem.run_bind, h1, Result.andThen_ok, h3, Sem.run_pure]

theorem retObs_at : ∀ (Ls : List Nat) (obs : List OB), retObs s Ls obs → ∀ (k : Nat) (ob : OB), obs[k]? = some ob → ∃ l, Ls[k]? = some l ∧ s.hp l = some ob
  | [], [], _, k, ob, h => by simp at h
  | [], _ :: _, h, _, _, _ => h.elim
  | _ :: _, [], h, _, _, _ => h.elim
  | l :: ls, o :: obs, h, 0, ob, e => by simp at e; subst e; exact ⟨l, rfl, h.1⟩
  | l :: ls, o :: obs, h, k + 1, ob, e => by simpa using retObs_at ls obs h.2 k ob (by simpa using e)
theorem retObs_back : ∀ (Ls : List Nat) (obs : List OB), retObs s Ls obs → ∀ (k l : Nat), Ls[k]? = some l → ∃ ob, obs[k]? = some ob ∧ s.hp l = some ob
  | [], [], _, k, l, h => by simp at h
  | [], _ :: _, h, _, _, _ => h.elim
  | _ :: _, [], h, _, _, _ => h.elim
  | l :: ls, o :: obs, h, 0, l', e => by simp at e; subst e; exact ⟨o, rfl, h.1⟩
  | l :: ls, o :: obs, h, k + 1, l', e => by simpa using retObs_back ls obs h.2 k l' (by simpa using e)

theorem ret_rv (h : SimW W M S0 s tmps w S B V) {Ls : List Nat} {obs : List OB} (ho : retObs s Ls obs) {x y : AV} {u : Value} (hr : retA s Ls x y) (hx : RV S w s.hp B V x u) :
    RV (fun g => S g ∨ ∃ l ob, s.hp l = some ob ∧ l ∉ Ls ∧ (V l).ownBlock = some g) w (obsF obs) (fun k => B (Ls.getD k 0)) (fun k => V (Ls.getD k 0)) y u := by
  rcases hr with ⟨rfl, hd⟩ | ⟨l, k, rfl, rfl, hk⟩ | ⟨l, ob, rfl, hob, rfl, hn⟩
  · refine RV.carry (fun _ h => .inl h) (fun _ _ => rfl) _ _ (fun l ob hn _ => ?_) hx
    cases x <;> first | exact hd.elim | simp [AV.names] at hn
  · unfold RV at hx ⊢
    obtain ⟨ob, h1, h2⟩ := retObs_back Ls obs ho k l hk
    exact ⟨⟨ob, h1⟩, by rw [hx.2]; simp [List.getD, hk]⟩
  · unfold RV at hx ⊢
    rw [hx.2]
    refine RA.mono (fun g hg => ?_) (fun _ _ => rfl) _ _ (h.hp l ob hob).list
    rcases hg with hg | hg
    · exact .inl hg
    · exact .inr ⟨l, ob, hob, hn, hg⟩
theorem ret_rvs (h : SimW W M S0 s tmps w S B V) {Ls : List Nat} {obs : List OB} (ho : retObs s Ls obs) : ∀ (xs ys : List AV) (us : List Value), retAs s Ls xs ys → RVs S w s.hp B V xs us →
    RVs (fun g => S g ∨ ∃ l ob, s.hp l = some ob ∧ l ∉ Ls ∧ (V l).ownBlock = some g) w (obsF obs) (fun k => B (Ls.getD k 0)) (fun k => V (Ls.getD k 0)) ys us
  | [], [], us, _, hx => by unfold RVs at hx ⊢; exact hx
  | [], _ :: _, us, h, _ => h.elim
  | _ :: _, [], us, h, _ => h.elim
  | x :: xs, y :: ys, us, hr, hx => by
    unfold RVs at hx ⊢
    obtain ⟨u, us', e, h1, h2⟩ := hx
    exact ⟨u, us', e, ret_rv h ho hr.1 h1, ret_rvs h ho xs ys us' hr.2 h2⟩

theorem nodup_at {Ls : List Nat} (hn : Ls.Nodup) {i j l : Nat} (hi : Ls[i]? = some l) (hj : Ls[j]? = some l) : i = j := by
  obtain ⟨h1, e1⟩ := List.getElem?_eq_some_iff.1 hi
  obtain ⟨h2, e2⟩ := List.getElem?_eq_some_iff.1 hj
  apply Classical.byContradiction
  intro hne
  have hp := List.pairwise_iff_getElem.1 hn
  rcases Nat.lt_or_gt_of_ne hne with hlt | hlt
  · exact hp i j h1 h2 hlt (e1.trans e2.symm)
  · exact hp j i h2 h1 hlt (e2.trans e1.symm)

/-- **A CONTRACT OUT OF THE BODY.** -/
theorem ac_of (hΘ : TabOK P Θ) (hm : P.follows .mixedOrders = true) {f : FuncId} {fn : Func} {c : Code} {n : Nat} {rs : List ResultVar} (hf : P.funcs[f]? = some fn) (hb : fn.body = some c) (hnt : fn.ntmps = n) (hrs : fn.results.toList = rs) (hnm : (fn.name == "runtime.NumGoroutine") = false)
    {args : List AV} {out : Out} (hlen : args.length ≤ n) (h : ACode P Θ n c (RetQ Θ rs out) (St.init args)) : AC P f args out := by
  refine ⟨fun vs w => by simp only [callFunc, Sem.run_bind, run_program, Result.andThen_ok, hf, hnm, hb]; rfl, fun w S0 vs hS0 hargs => ?_⟩
  have hl : ∀ (xs : List AV) (us : List Value), RVs S0 w (fun _ => none) (fun _ => 0) (fun _ => undef) xs us → us.length = xs.length := by
    intro xs
    induction xs with
    | nil => intro us h; unfold RVs at h; rw [h]; rfl
    | cons x xs ih => intro us h; unfold RVs at h; obtain ⟨u, us', rfl, _, h2⟩ := h; simp [ih us' h2]
  have hvl := hl _ _ hargs
  have hat : ∀ (xs : List AV) (us : List Value) (j : Nat), RVs S0 w (fun _ => none) (fun _ => 0) (fun _ => undef) xs us → RV S0 w (fun _ => none) (fun _ => 0) (fun _ => undef) ((xs[j]?).getD .any) ((us[j]?).getD undef) := by
    intro xs
    induction xs with
    | nil => intro us j h; show RV _ _ _ _ _ .any _; unfold RV; trivial
    | cons x xs ih =>
      intro us j h
      unfold RVs at h
      obtain ⟨u, us', rfl, h1, h2⟩ := h
      cases j with
      | zero => exact h1
      | succ j => simpa using ih us' j h2
  have hsim : Sim w none S0 n (St.init args) { tmps := vs.toArray ++ Array.replicate (fn.ntmps - vs.toArray.size) undef, defers := [] } w := by
    refine ⟨by simp; omega, rfl, S0, fun _ => 0, fun _ => undef, ⟨⟨rfl, rfl, rfl, Nat.le_refl _, fun _ _ _ => rfl⟩, fun _ h => h, fun b hb => ⟨hS0 b hb, .inl hb⟩, fun t => ?_, fun l ob e => by simp [St.init] at e, fun l l' o1 o2 g e => by simp [St.init] at e, fun l ob g e => by simp [St.init] at e, fun u e => by cases e⟩⟩
    have hget : (vs.toArray ++ Array.replicate (fn.ntmps - vs.toArray.size) undef).getD t undef = (vs[t]?).getD undef := by
      simp only [Array.getD_eq_getD_getElem?, Array.getElem?_append, List.size_toArray]
      by_cases ht : t < vs.length
      · simp [ht]
      · simp [ht, Array.getElem?_replicate]
        split <;> rfl
    rw [hget]
    exact hat args vs t hargs
  refine calls_of_wp hf hb (acode_sound (M := none) (W := w) (S0 := S0) hΘ hm c (RetQ Θ rs out) _ _ _ _ hsim (fun e s a w' hs he => ?_) h)
  have hmain : Ret Θ rs out s → a.defers = [] ∧ ∃ v, (results fn a.tmps).run P w' = .ok v w' ∧ ∃ v' S B V, Ending.returned v = .returned v' ∧ Below w.heap.size w w' ∧ (∀ b, S0 b → S b) ∧ (∀ b, S b → b < w'.heap.size ∧ (S0 b ∨ w.heap.size ≤ b)) ∧
      RV S w' (obsF out.obs) B V out.val v' ∧ (∀ l ob, obsF out.obs l = some ob → RO S w' w.heap.size ob (B l) (V l)) ∧
      ∀ l l' ob ob' g, obsF out.obs l = some ob → obsF out.obs l' = some ob' → (V l).ownBlock = some g → (V l').ownBlock = some g → l = l' := by
    rintro ⟨Ls, hnd, hobs, hrvs, htup, hret⟩
    obtain ⟨hn, hdf, S, B, V, hw⟩ := hs
    obtain ⟨us, hrun, hrv, hul⟩ := rvs_run hΘ hw rs hrvs
    have hrets := ret_rvs hw hobs _ _ us hret hrv
    refine ⟨hdf, (if h : us.toArray.size = 1 then us.toArray[0] else .tuple us.toArray), ?_, _, fun g => S g ∨ ∃ l ob, s.hp l = some ob ∧ l ∉ Ls ∧ (V l).ownBlock = some g, fun k => B (Ls.getD k 0), fun k => V (Ls.getD k 0), rfl, below_of_grown hw.below, fun b hb => .inl (hw.s0 b hb), fun b hb => ?_, ?_, fun k ob ho => ?_, fun k k' o1 o2 g h1 h2 e1 e2 => ?_⟩
    · have hmp : (fn.results.mapM (fun | .tmp t => pure (a.tmps.getD t undef) | .cell a' t => do loadVar t (← asAddr (a.tmps.getD a' undef)) : ResultVar → Sem Value)).run P w' = .ok us.toArray w' := by
        rw [Array.mapM_eq_mapM_toList, hrs]
        simp only [Sem.run_map, hrun, Result.andThen_ok]
      unfold results
      rw [Sem.run_bind]
      exact (congrArg (fun r => Result.andThen r fun (a : Array Value) w' => Sem.run P (pure (if h : a.size = 1 then a[0] else Value.tuple a)) w') hmp).trans rfl
    · rcases hb with hb | ⟨l, ob, ho, _, hg⟩
      · exact ⟨(hw.slt b hb).1, (hw.slt b hb).2.imp id (fun h => h.resolve_right (by simp [mb]))⟩
      · exact ⟨((hw.hp l ob ho).lt b hg).2, .inr ((hw.mine l ob b ho hg).resolve_right (by simp [mb]))⟩
    · match rs, us, hul, htup, hrets with
      | [r], [u], _, _, hq =>
        have : RVs _ _ _ _ _ [out.val] [u] := hq
        unfold RVs at this
        obtain ⟨u', us', e, h1, _⟩ := this
        cases e
        exact h1
      | [], us, hul, htup, hq =>
        obtain ⟨ys, hy⟩ := htup
        have : us = [] := List.eq_nil_of_length_eq_zero hul
        subst this
        rw [hy] at hq ⊢
        unfold RV
        exact ⟨[], by simp, hq⟩
      | r1 :: r2 :: rest, us, hul, htup, hq =>
        obtain ⟨ys, hy⟩ := htup
        rw [hy] at hq ⊢
        unfold RV
        have hne : ¬ us.toArray.size = 1 := by simp only [List.size_toArray]; rw [hul]; simp
        rw [dif_neg hne]
        exact ⟨us, rfl, hq⟩
    · obtain ⟨l, hl, ho'⟩ := retObs_at Ls _ hobs k ob ho
      simp only [List.getD, hl, Option.getD_some]
      have hb0 : RO S w' w.heap.size ob (B l) (V l) := by
        obtain ⟨cs, r1, r2, r3, r4, r5⟩ := hw.hp l ob ho'
        refine ⟨cs, r1, r2, r3, ⟨r4.1, ?_⟩, r5⟩
        rcases r4.2 with h1 | ⟨g, cap, cur, e1, e2, e3⟩
        · exact .inl h1
        · exact .inr ⟨g, cap, cur, e1, (hw.mine l ob g ho' (by rw [e1]; rfl)).resolve_right (by simp [mb]), e3⟩
      refine hb0.carry (fun _ h => .inl h) (fun _ _ => rfl) (fun g hg => ⟨rfl, fun hns hs => ?_⟩)
      rcases hs with hs | ⟨l', ob', ho2, hno, hg'⟩
      · exact hns hs
      · have := hw.dist l l' ob ob' g ho' ho2 hg hg'
        subst this
        exact hno (List.mem_of_getElem? hl)
    · obtain ⟨l, hl, ho'⟩ := retObs_at Ls _ hobs k o1 h1
      obtain ⟨l', hl', ho2⟩ := retObs_at Ls _ hobs k' o2 h2
      simp only [List.getD, hl, hl', Option.getD_some] at e1 e2
      have := hw.dist l l' o1 o2 g ho' ho2 e1 e2
      subst this
      exact nodup_at hnd hl hl'
  cases e with
  | normal => exact hmain he
  | ret => exact hmain he
  | exit id => exact he.elim

theorem get_tmps (l : List Value) (k t : Nat) : (l.toArray ++ Array.replicate k undef).getD t undef = (l[t]?).getD undef := by
  simp only [Array.getD_eq_getD_getElem?, Array.getElem?_append, List.size_toArray]
  by_cases ht : t < l.length
  · simp [ht]
  · simp [ht, Array.getElem?_replicate]
    split <;> rfl
def St.initM (ob : OB) (args : List AV) : St := ⟨fun j => ((.own 0 :: args)[j]?).getD .any, fun l => bif Nat.beq l 0 then some ob else none⟩
/-- a body that writes into its first argument, and hands back a plain value -/
def RetM (r : Nat) (e : TypeId) (sz : Nat) (xs' : List AV) (v : Value) : AEx → St → Prop
  | .normal, s | .ret, s => s.sl r = .v v ∧ s.hp 0 = some ⟨e, sz, xs'⟩
  | _, _ => False
theorem acm_of (hΘ : TabOK P Θ) (hm : P.follows .mixedOrders = true) {f : FuncId} {fn : Func} {c : Code} {n r : Nat} (hf : P.funcs[f]? = some fn) (hb : fn.body = some c) (hnt : fn.ntmps = n) (hrs : fn.results = #[.tmp r]) (hnm : (fn.name == "runtime.NumGoroutine") = false)
    {args : List AV} {ob : OB} {xs' : List AV} {v : Value} (hlen : args.length + 1 ≤ n) (hfl : flatL xs') (h : ACode P Θ n c (RetM r ob.e ob.sz xs' v) (St.initM ob args)) : ACM P f ob xs' args v := by
  refine ⟨fun vs w => by simp only [callFunc, Sem.run_bind, run_program, Result.andThen_ok, hf, hnm, hb]; rfl, fun w S0 B V vs hS0 hro hargs => ?_⟩
  have hl : ∀ (xs : List AV) (us : List Value), RVs S0 w (fun _ => none) (fun _ => 0) (fun _ => undef) xs us → us.length = xs.length := by
    intro xs
    induction xs with
    | nil => intro us h; unfold RVs at h; rw [h]; rfl
    | cons x xs ih => intro us h; unfold RVs at h; obtain ⟨u, us', rfl, _, h2⟩ := h; simp [ih us' h2]
  have hvl := hl _ _ hargs
  have hat : ∀ (xs : List AV) (us : List Value) (j : Nat), RVs S0 w (fun _ => none) (fun _ => 0) (fun _ => undef) xs us → RV S0 w (fun l => bif Nat.beq l 0 then some ob else none) (fun _ => B) (fun _ => V) ((xs[j]?).getD .any) ((us[j]?).getD undef) := by
    intro xs
    induction xs with
    | nil => intro us j h; show RV _ _ _ _ _ .any _; unfold RV; trivial
    | cons x xs ih =>
      intro us j h
      unfold RVs at h
      obtain ⟨u, us', rfl, h1, h2⟩ := h
      cases j with
      | zero =>
        refine RV.carry (hp := fun _ => none) (fun _ h => h) (fun _ _ => rfl) _ _ (fun l ob _ e => by cases e) h1
      | succ j => simpa using ih us' j h2
  have hown : ∀ g, V.ownBlock = some g → mb (some V) = some g := fun g hg => hg
  have hsim : Sim w (some V) S0 n (St.initM ob args) { tmps := (V :: vs).toArray ++ Array.replicate (fn.ntmps - (V :: vs).toArray.size) undef, defers := [] } w := by
    refine ⟨by simp; omega, rfl, S0, fun _ => B, fun _ => V, ⟨⟨rfl, rfl, rfl, Nat.le_refl _, fun _ _ _ => rfl⟩, fun _ h => h, fun b hb => ⟨hS0 b hb, .inl hb⟩, fun t => ?_, fun l ob' e => ?_, fun l l' o1 o2 g e1 e2 _ _ => ?_, fun l ob' g e hg => .inr hg, fun u e => by cases e; rfl⟩⟩
    · have hget := get_tmps (V :: vs) (fn.ntmps - (V :: vs).toArray.size) t
      rw [hget]
      cases t with
      | zero => show RV _ _ _ _ _ (.own 0) V; unfold RV; exact ⟨⟨ob, rfl⟩, rfl⟩
      | succ t =>
        have := hat args vs t hargs
        simpa [St.initM] using this
    · by_cases h0 : l = 0
      · subst h0; have : ob' = ob := by simpa [St.initM] using e.symm
        subst this; exact hro
      · simp [St.initM, nbne h0] at e
    · by_cases h0 : l = 0
      · by_cases h1 : l' = 0
        · rw [h0, h1]
        · simp [St.initM, nbne h1] at e2
      · simp [St.initM, nbne h0] at e1
  refine calls_of_wp hf hb (acode_sound (M := some V) (W := w) (S0 := S0) hΘ hm c (RetM r ob.e ob.sz xs' v) _ _ _ _ hsim (fun e s a w' hs he => ?_) h)
  have hmain : (s.sl r = .v v ∧ s.hp 0 = some ⟨ob.e, ob.sz, xs'⟩) → a.defers = [] ∧ ∃ u, (results fn a.tmps).run P w' = .ok u w' ∧ Ending.returned u = .returned v ∧ w.grownBy w' V.ownBlock ∧ RO S0 w' 0 ⟨ob.e, ob.sz, xs'⟩ B V := by
    rintro ⟨h1, h2⟩
    obtain ⟨hn, hdf, S, B', V', hw⟩ := hs
    have hr := hw.sl r
    rw [h1] at hr
    unfold RV at hr
    have hv0 := hw.pin V rfl
    have hro' := hw.hp 0 _ h2
    rw [hv0] at hro'
    refine ⟨hdf, v, ?_, rfl, hw.below, ?_⟩
    · have := hr.1
      rw [Array.getD_eq_getD_getElem?] at this
      simp [results, hrs, this]
    · obtain ⟨cs, r1, r2, r3, r4, r5⟩ := hro'
      obtain ⟨_, _, _, _, _, q5⟩ := hro
      exact ⟨cs, RL.flat _ _ hfl r1, r2, r3, r4, fun g hg => ⟨(q5 g hg).1, fun hs => (r5 g hg).2 (hw.s0 g hs)⟩⟩
  cases e with
  | normal => exact hmain he
  | ret => exact hmain he
  | exit id => exact he.elim
end
end Go.Proofs.Ytciacgmdeaihlaa.AM
