/- The machine over data (Am12, Am13, Am14). -/
import Derived.Test.YtmafbodblpgcjaaAm11
/- The machine over data: a function's body walked gives the call's contract. -/
namespace Go.Proofs.Ytmafbodblpgcjaa.AM
open Go Go.RowKit
set_option linter.unusedVariables false

/-- a result's datum -/
def rvA (s : St) : ResultVar → AV
  | .tmp t => s.sl t
  | .cell a _ => match s.sl a with
    | .optr l 0 [] 0 => match s.hp l with
      | some ob => (ob.xs[0]?).getD .any
      | none => .any
    | .ptr x => x
    | _ => .any
def rvOK (Θ : Tab) (s : St) : ResultVar → Prop
  | .tmp _ => True
  | .cell a t => (Θ.look t).known = true ∧ isAggA (rvA s (.cell a t)) = (Θ.look t).isAgg ∧ asz (rvA s (.cell a t)) = (Θ.look t).size ∧ ((∃ l ob x, s.sl a = .optr l 0 [] 0 ∧ s.hp l = some ob ∧ ob.xs[0]? = some x) ∨ ∃ x, s.sl a = .ptr x)
def rvsOK (Θ : Tab) (s : St) : List ResultVar → Prop
  | [] => True
  | r :: rs => rvOK Θ s r ∧ rvsOK Θ s rs
/-- a datum handed back: Ls are the rows that go with it -/
def retA (s : St) (Ls : List Nat) (x y : AV) : Prop :=
  (x = y ∧ (match y with | .v _ | .agg _ | .lst _ _ | .any => True | _ => False)) ∨ (∃ l k, x = .own l ∧ y = .own k ∧ Ls[k]? = some l) ∨ ∃ l ob, x = .own l ∧ s.hp l = some ob ∧ y = .lst ob.sz ob.xs ∧ l ∉ Ls
def retAs (s : St) (Ls : List Nat) : List AV → List AV → Prop
  | [], [] => True
  | x :: xs, y :: ys => retA s Ls x y ∧ retAs s Ls xs ys
  | _, _ => False
def retObs (s : St) : List Nat → List OB → Prop
  | [], [] => True
  | l :: ls, ob :: obs => s.hp l = some ob ∧ retObs s ls obs
  | _, _ => False
def outVals (rs : List ResultVar) (v : AV) : List AV :=
  match rs with
  | [_] => [v]
  | _ => match v with | .tup ys => ys | _ => [.own 0, .own 0, .own 0, .own 0, .own 0, .own 0]
def isTupOK (rs : List ResultVar) (v : AV) : Prop :=
  match rs with
  | [_] => True
  | _ => ∃ ys, v = .tup ys
def Ret (Θ : Tab) (rs : List ResultVar) (out : Out) (s : St) : Prop :=
  ∃ Ls, Ls.Nodup ∧ retObs s Ls out.obs ∧ rvsOK Θ s rs ∧ isTupOK rs out.val ∧ retAs s Ls (rs.map (rvA s)) (outVals rs out.val)
def RetQ (Θ : Tab) (rs : List ResultVar) (out : Out) : AEx → St → Prop
  | .normal, s | .ret, s => Ret Θ rs out s
  | _, _ => False
def St.init (args : List AV) : St := ⟨fun j => (args[j]?).getD .any, fun _ => none, fun _ => none⟩

section
variable {P : Program} {Θ : Tab} {W : World} {M : Option Value} {S0 : Nat → Prop} {n : Nat} {s : St} {a : Act} {w : World} {S : Nat → Prop} {B : Nat → Nat} {V : Nat → Value} {tmps : Array Value}

theorem rv_run (hΘ : TabOK P Θ) (h : SimW W M S0 s tmps w S B V) (r : ResultVar) (hr : rvOK Θ s r) :
    ∃ v, (match r with | .tmp t => pure (tmps.getD t undef) | .cell a t => do loadVar t (← asAddr (tmps.getD a undef)) : Sem Value).run P w = .ok v w ∧ RV S w s.hp B V (rvA s r) v := by
  cases r with
  | tmp t => exact ⟨_, rfl, h.sl t⟩
  | cell a t =>
    obtain ⟨hk, hagg, hsz, hx⟩ := hr
    obtain ⟨i0, hi0, hs0, hag, _⟩ := ti_info (hΘ t) hk
    have hsl := h.sl a
    rcases hx with ⟨l, ob, x, hx, ho, hq⟩ | ⟨x, hx⟩
    · have hrv : rvA s (.cell a t) = x := by simp [rvA, hx, ho, hq]
      rw [hrv] at hagg hsz ⊢
      rw [hx] at hsl
      unfold RV at hsl
      obtain ⟨ob', ho', hpx⟩ := hsl
      rw [ho] at ho'; cases ho'
      have hne : ob.xs ≠ [] := fun e => by rw [e] at hq; simp at hq
      obtain ⟨cs, cap, cur, hr, ha, hV, hb, hns, hheap, hc, hm, hs, ht⟩ := (h.hp l ob ho).block hne
      obtain ⟨qs, k1, k2, k3, k4⟩ := RL.at 0 hr hq
      have hcell : ∀ j u, qs[j]? = some u → w.cell? ⟨B l, 0 + j, none⟩ = some u := fun j u hu => by
        have h1 := k4 _ _ hu
        simp only [List.take_zero, aszs, Nat.zero_add] at h1
        rw [← ht, List.getElem?_take] at h1
        rw [cell_of_row w (B l) (0 + j) cur ob.e (0, 0) hheap]
        split at h1
        · simpa using h1
        · cases h1
      obtain ⟨u, hu, eu, h1⟩ := data_rv (s := s) (B := B) (V := V) k1 hagg
      have hrun := run_load_at (P := P) (w := w) t hi0 (by rw [hs0, ← hsz]; exact (RA.size _ _ k1).symm) hcell (hag w) h1
      rw [eu] at hrun
      refine ⟨u, ?_, hu⟩
      simp only [hpx, asAddr, Sem.run_bind, Sem.run_pure, Result.andThen_ok]
      simpa [Instr.loadAt, Instr.sureAddr] using hrun
    · have hrv : rvA s (.cell a t) = x := by simp [rvA, hx]
      rw [hrv] at hagg hsz ⊢
      rw [hx] at hsl
      unfold RV at hsl
      obtain ⟨b, off, us, e, hb, hr, hc⟩ := hsl
      obtain ⟨u, hu, eu, h1⟩ := data_rv (s := s) (B := B) (V := V) hr hagg
      have hrun := run_load_at (P := P) (w := w) t hi0 (by rw [hs0, ← hsz]; exact (RA.size _ _ hr).symm) hc (hag w) h1
      rw [eu] at hrun
      refine ⟨u, ?_, hu⟩
      simp only [e, asAddr, Sem.run_bind, Sem.run_pure, Result.andThen_ok]
      simpa [Instr.loadAt, Instr.sureAddr] using hrun
theorem rvs_run (hΘ : TabOK P Θ) (h : SimW W M S0 s tmps w S B V) : ∀ (rs : List ResultVar), rvsOK Θ s rs →
    ∃ vs, (rs.mapM (fun | .tmp t => pure (tmps.getD t undef) | .cell a t => do loadVar t (← asAddr (tmps.getD a undef)) : ResultVar → Sem Value)).run P w = .ok vs w ∧ RVs S w s.hp B V (rs.map (rvA s)) vs ∧ vs.length = rs.length
  | [], _ => ⟨[], by simp, by simp only [List.map_nil]; unfold RVs; rfl, rfl⟩
  | r :: rs, hr => by
    obtain ⟨v, h1, h2⟩ := rv_run hΘ h r hr.1
    obtain ⟨vs, h3, h4, h5⟩ := rvs_run hΘ h rs hr.2
    refine ⟨v :: vs, ?_, by simp only [List.map_cons]; unfold RVs; exact ⟨v, vs, rfl, h2, h4⟩, by simp [h5]⟩
    simp only [List.mapM_cons, Sem.run_bind, h1, Result.andThen_ok, h3, Sem.run_pure]

theorem retObs_at : ∀ (Ls : List Nat) (obs : List OB), retObs s Ls obs → ∀ (k : Nat) (ob : OB), obs[k]? = some ob → ∃ l, Ls[k]? = some l ∧ s.hp l = some ob
  | [], [], _, k, ob, h => by simp at h
  | [], _ :: _, h, _, _, _ => h.elim
  | _ :: _, [], h, _, _, _ => h.elim
  | l :: ls, o :: obs, h, 0, ob, e => by simp at e; subst e; exact ⟨l, rfl, h.1⟩
  | l :: ls, o :: obs, h, k + 1, ob, e => by simpa using retObs_at ls obs h.2 k ob (by simpa using e)
theorem retObs_back : ∀ (Ls : List Nat) (obs : List OB), retObs s Ls obs → ∀ (k l : Nat), Ls[k]? = some l → ∃ ob, obs[k]? = some ob ∧ s.hp l = some ob
  | [], [], _, k, l, h => by simp at h
  | [], _ :: _, h, _, _, _ => h.elim
  | _ :: _, [], h, _, _, _ => h.elim
  | l :: ls, o :: obs, h, 0, l', e => by simp at e; subst e; exact ⟨o, rfl, h.1⟩
  | l :: ls, o :: obs, h, k + 1, l', e => by simpa using retObs_back ls obs h.2 k l' (by simpa using e)

theorem ret_rv (h : SimW W M S0 s tmps w S B V) {Ls : List Nat} {obs : List OB} (ho : retObs s Ls obs) {x y : AV} {u : Value} (hr : retA s Ls x y) (hx : RV S w s.hp B V x u) :
    RV (fun g => S g ∨ ∃ l ob, s.hp l = some ob ∧ l ∉ Ls ∧ (V l).ownBlock = some g) w (obsF obs) (fun k => B (Ls.getD k 0)) (fun k => V (Ls.getD k 0)) y u := by
  rcases hr with ⟨rfl, hd⟩ | ⟨l, k, rfl, rfl, hk⟩ | ⟨l, ob, rfl, hob, rfl, hn⟩
  · refine RV.carry (fun _ h => .inl h) (fun _ _ => rfl) _ _ (fun l ob hn _ => ?_) hx
    cases x <;> first | exact hd.elim | simp [AV.names] at hn
  · unfold RV at hx ⊢
    obtain ⟨ob, h1, h2⟩ := retObs_back Ls obs ho k l hk
    exact ⟨⟨ob, h1⟩, by rw [hx.2]; simp [List.getD, hk]⟩
  · unfold RV at hx ⊢
    rw [hx.2]
    refine RA.mono (fun g hg => ?_) (fun _ _ => rfl) _ _ (h.hp l ob hob).list
    rcases hg with hg | hg
    · exact .inl hg
    · exact .inr ⟨l, ob, hob, hn, hg⟩
theorem ret_rvs (h : SimW W M S0 s tmps w S B V) {Ls : List Nat} {obs : List OB} (ho : retObs s Ls obs) : ∀ (xs ys : List AV) (us : List Value), retAs s Ls xs ys → RVs S w s.hp B V xs us →
    RVs (fun g => S g ∨ ∃ l ob, s.hp l = some ob ∧ l ∉ Ls ∧ (V l).ownBlock = some g) w (obsF obs) (fun k => B (Ls.getD k 0)) (fun k => V (Ls.getD k 0)) ys us
  | [], [], us, _, hx => by unfold RVs at hx ⊢; exact hx
  | [], _ :: _, us, h, _ => h.elim
  | _ :: _, [], us, h, _ => h.elim
  | x :: xs, y :: ys, us, hr, hx => by
    unfold RVs at hx ⊢
    obtain ⟨u, us', e, h1, h2⟩ := hx
    exact ⟨u, us', e, ret_rv h ho hr.1 h1, ret_rvs h ho xs ys us' hr.2 h2⟩

theorem nodup_at {Ls : List Nat} (hn : Ls.Nodup) {i j l : Nat} (hi : Ls[i]? = some l) (hj : Ls[j]? = some l) : i = j := by
  obtain ⟨h1, e1⟩ := List.getElem?_eq_some_iff.1 hi
  obtain ⟨h2, e2⟩ := List.getElem?_eq_some_iff.1 hj
  apply Classical.byContradiction
  intro hne
  have hp := List.pairwise_iff_getElem.1 hn
  rcases Nat.lt_or_gt_of_ne hne with hlt | hlt
  · exact hp i j h1 h2 hlt (e1.trans e2.symm)
  · exact hp j i h2 h1 hlt (e2.trans e1.symm)

/-- **A CONTRACT OUT OF THE BODY.** -/
theorem ac_of (hΘ : TabOK P Θ) (hm : P.follows .mixedOrders = true) {f : FuncId} {fn : Func} {c : Code} {n : Nat} {rs : List ResultVar} (hf : P.funcs[f]? = some fn) (hb : fn.body = some c) (hnt : fn.ntmps = n) (hrs : fn.results.toList = rs) (hnm : (fn.name == "runtime.NumGoroutine") = false)
    {args : List AV} {out : Out} (hlen : args.length ≤ n) (h : ACode P Θ n c (RetQ Θ rs out) (St.init args)) : AC P f args out := by
  refine ⟨fun vs w => by simp only [callFunc, Sem.run_bind, run_program, Result.andThen_ok, hf, hnm, hb]; rfl, fun w S0 vs hS0 hargs => ?_⟩
  have hl : ∀ (xs : List AV) (us : List Value), RVs S0 w (fun _ => none) (fun _ => 0) (fun _ => undef) xs us → us.length = xs.length := by
    intro xs
    induction xs with
    | nil => intro us h; unfold RVs at h; rw [h]; rfl
    | cons x xs ih => intro us h; unfold RVs at h; obtain ⟨u, us', rfl, _, h2⟩ := h; simp [ih us' h2]
  have hvl := hl _ _ hargs
  have hat : ∀ (xs : List AV) (us : List Value) (j : Nat), RVs S0 w (fun _ => none) (fun _ => 0) (fun _ => undef) xs us → RV S0 w (fun _ => none) (fun _ => 0) (fun _ => undef) ((xs[j]?).getD .any) ((us[j]?).getD undef) := by
    intro xs
    induction xs with
    | nil => intro us j h; show RV _ _ _ _ _ .any _; unfold RV; trivial
    | cons x xs ih =>
      intro us j h
      unfold RVs at h
      obtain ⟨u, us', rfl, h1, h2⟩ := h
      cases j with
      | zero => exact h1
      | succ j => simpa using ih us' j h2
  have hsim : Sim w none S0 n (St.init args) { tmps := vs.toArray ++ Array.replicate (fn.ntmps - vs.toArray.size) undef, defers := [] } w := by
    refine ⟨by simp; omega, rfl, S0, fun _ => 0, fun _ => undef, ⟨⟨rfl, rfl, rfl, Nat.le_refl _, fun _ _ _ => rfl⟩, fun _ h => h, fun b hb => ⟨hS0 b hb, .inl hb⟩, fun t => ?_, fun l ob e => by simp [St.init] at e, fun l l' o1 o2 g e => by simp [St.init] at e, fun l ob g e => by simp [St.init] at e, (fun u e => by cases e), Mps.none⟩⟩
    have hget : (vs.toArray ++ Array.replicate (fn.ntmps - vs.toArray.size) undef).getD t undef = (vs[t]?).getD undef := by
      simp only [Array.getD_eq_getD_getElem?, Array.getElem?_append, List.size_toArray]
      by_cases ht : t < vs.length
      · simp [ht]
      · simp [ht, Array.getElem?_replicate]
        split <;> rfl
    rw [hget]
    exact hat args vs t hargs
  refine calls_of_wp hf hb (acode_sound (M := none) (W := w) (S0 := S0) hΘ hm c (RetQ Θ rs out) _ _ _ _ hsim (fun e s a w' hs he => ?_) h)
  have hmain : Ret Θ rs out s → a.defers = [] ∧ ∃ v, (results fn a.tmps).run P w' = .ok v w' ∧ ∃ v' S B V, Ending.returned v = .returned v' ∧ Below w.heap.size w w' ∧ (∀ b, S0 b → S b) ∧ (∀ b, S b → b < w'.heap.size ∧ (S0 b ∨ w.heap.size ≤ b)) ∧
      RV S w' (obsF out.obs) B V out.val v' ∧ (∀ l ob, obsF out.obs l = some ob → RO S w' w.heap.size ob (B l) (V l)) ∧
      ∀ l l' ob ob' g, obsF out.obs l = some ob → obsF out.obs l' = some ob' → (V l).ownBlock = some g → (V l').ownBlock = some g → l = l' := by
    rintro ⟨Ls, hnd, hobs, hrvs, htup, hret⟩
    obtain ⟨hn, hdf, S, B, V, hw⟩ := hs
    obtain ⟨us, hrun, hrv, hul⟩ := rvs_run hΘ hw rs hrvs
    have hrets := ret_rvs hw hobs _ _ us hret hrv
    refine ⟨hdf, (if h : us.toArray.size = 1 then us.toArray[0] else .tuple us.toArray), ?_, _, fun g => S g ∨ ∃ l ob, s.hp l = some ob ∧ l ∉ Ls ∧ (V l).ownBlock = some g, fun k => B (Ls.getD k 0), fun k => V (Ls.getD k 0), rfl, below_of_grown hw.below, fun b hb => .inl (hw.s0 b hb), fun b hb => ?_, ?_, fun k ob ho => ?_, fun k k' o1 o2 g h1 h2 e1 e2 => ?_⟩
    · have hmp : (fn.results.mapM (fun | .tmp t => pure (a.tmps.getD t undef) | .cell a' t => do loadVar t (← asAddr (a.tmps.getD a' undef)) : ResultVar → Sem Value)).run P w' = .ok us.toArray w' := by
        rw [Array.mapM_eq_mapM_toList, hrs]
        simp only [Sem.run_map, hrun, Result.andThen_ok]
      unfold results
      rw [Sem.run_bind]
      exact (congrArg (fun r => Result.andThen r fun (a : Array Value) w' => Sem.run P (pure (if h : a.size = 1 then a[0] else Value.tuple a)) w') hmp).trans rfl
    · rcases hb with hb | ⟨l, ob, ho, _, hg⟩
      · exact ⟨(hw.slt b hb).1, (hw.slt b hb).2.imp id (fun h => h.resolve_right (by simp [mb]))⟩
      · exact ⟨((hw.hp l ob ho).lt b hg).2, .inr ((hw.mine l ob b ho hg).resolve_right (by simp [mb]))⟩
    · match rs, us, hul, htup, hrets with
      | [r], [u], _, _, hq =>
        have : RVs _ _ _ _ _ [out.val] [u] := hq
        unfold RVs at this
        obtain ⟨u', us', e, h1, _⟩ := this
        cases e
        exact h1
      | [], us, hul, htup, hq =>
        obtain ⟨ys, hy⟩ := htup
        have : us = [] := List.eq_nil_of_length_eq_zero hul
        subst this
        rw [hy] at hq ⊢
        unfold RV
        exact ⟨[], by simp, hq⟩
      | r1 :: r2 :: rest, us, hul, htup, hq =>
        obtain ⟨ys, hy⟩ := htup
        rw [hy] at hq ⊢
        unfold RV
        have hne : ¬ us.toArray.size = 1 := by simp only [List.size_toArray]; rw [hul]; simp
        rw [dif_neg hne]
        exact ⟨us, rfl, hq⟩
    · obtain ⟨l, hl, ho'⟩ := retObs_at Ls _ hobs k ob ho
      simp only [List.getD, hl, Option.getD_some]
      have hb0 : RO S w' w.heap.size ob (B l) (V l) := by
        obtain ⟨cs, r1, r2, r3, r4, r5⟩ := hw.hp l ob ho'
        refine ⟨cs, r1, r2, r3, ⟨r4.1, ?_⟩, r5⟩
        rcases r4.2 with h1 | ⟨g, cap, cur, e1, e2, e3⟩
        · exact .inl h1
        · exact .inr ⟨g, cap, cur, e1, (hw.mine l ob g ho' (by rw [e1]; rfl)).resolve_right (by simp [mb]), e3⟩
      refine hb0.carry (fun _ h => .inl h) (fun _ _ => rfl) (fun g hg => ⟨rfl, fun hns hs => ?_⟩)
      rcases hs with hs | ⟨l', ob', ho2, hno, hg'⟩
      · exact hns hs
      · have := hw.dist l l' ob ob' g ho' ho2 hg hg'
        subst this
        exact hno (List.mem_of_getElem? hl)
    · obtain ⟨l, hl, ho'⟩ := retObs_at Ls _ hobs k o1 h1
      obtain ⟨l', hl', ho2⟩ := retObs_at Ls _ hobs k' o2 h2
      simp only [List.getD, hl, hl', Option.getD_some] at e1 e2
      have := hw.dist l l' o1 o2 g ho' ho2 e1 e2
      subst this
      exact nodup_at hnd hl hl'
  cases e with
  | normal => exact hmain he
  | ret => exact hmain he
  | exit id => exact he.elim

theorem get_tmps (l : List Value) (k t : Nat) : (l.toArray ++ Array.replicate k undef).getD t undef = (l[t]?).getD undef := by
  simp only [Array.getD_eq_getD_getElem?, Array.getElem?_append, List.size_toArray]
  by_cases ht : t < l.length
  · simp [ht]
  · simp [ht, Array.getElem?_replicate]
    split <;> rfl
def St.initM (ob : OB) (args : List AV) : St := ⟨fun j => ((.own 0 :: args)[j]?).getD .any, fun l => bif Nat.beq l 0 then some ob else none, fun _ => none⟩
/-- a body that writes into its first argument, and hands back a plain value -/
def RetM (r : Nat) (e : TypeId) (sz : Nat) (xs' : List AV) (v : Value) : AEx → St → Prop
  | .normal, s | .ret, s => s.sl r = .v v ∧ s.hp 0 = some ⟨e, sz, xs'⟩
  | _, _ => False
theorem acm_of (hΘ : TabOK P Θ) (hm : P.follows .mixedOrders = true) {f : FuncId} {fn : Func} {c : Code} {n r : Nat} (hf : P.funcs[f]? = some fn) (hb : fn.body = some c) (hnt : fn.ntmps = n) (hrs : fn.results = #[.tmp r]) (hnm : (fn.name == "runtime.NumGoroutine") = false)
    {args : List AV} {ob : OB} {xs' : List AV} {v : Value} (hlen : args.length + 1 ≤ n) (hfl : flatL xs') (h : ACode P Θ n c (RetM r ob.e ob.sz xs' v) (St.initM ob args)) : ACM P f ob xs' args v := by
  refine ⟨fun vs w => by simp only [callFunc, Sem.run_bind, run_program, Result.andThen_ok, hf, hnm, hb]; rfl, fun w S0 B V vs hS0 hro hargs => ?_⟩
  have hl : ∀ (xs : List AV) (us : List Value), RVs S0 w (fun _ => none) (fun _ => 0) (fun _ => undef) xs us → us.length = xs.length := by
    intro xs
    induction xs with
    | nil => intro us h; unfold RVs at h; rw [h]; rfl
    | cons x xs ih => intro us h; unfold RVs at h; obtain ⟨u, us', rfl, _, h2⟩ := h; simp [ih us' h2]
  have hvl := hl _ _ hargs
  have hat : ∀ (xs : List AV) (us : List Value) (j : Nat), RVs S0 w (fun _ => none) (fun _ => 0) (fun _ => undef) xs us → RV S0 w (fun l => bif Nat.beq l 0 then some ob else none) (fun _ => B) (fun _ => V) ((xs[j]?).getD .any) ((us[j]?).getD undef) := by
    intro xs
    induction xs with
    | nil => intro us j h; show RV _ _ _ _ _ .any _; unfold RV; trivial
    | cons x xs ih =>
      intro us j h
      unfold RVs at h
      obtain ⟨u, us', rfl, h1, h2⟩ := h
      cases j with
      | zero =>
        refine RV.carry (hp := fun _ => none) (fun _ h => h) (fun _ _ => rfl) _ _ (fun l ob _ e => by cases e) h1
      | succ j => simpa using ih us' j h2
  have hown : ∀ g, V.ownBlock = some g → mb (some V) = some g := fun g hg => hg
  have hsim : Sim w (some V) S0 n (St.initM ob args) { tmps := (V :: vs).toArray ++ Array.replicate (fn.ntmps - (V :: vs).toArray.size) undef, defers := [] } w := by
    refine ⟨by simp; omega, rfl, S0, fun _ => B, fun _ => V, ⟨⟨rfl, rfl, rfl, Nat.le_refl _, fun _ _ _ => rfl⟩, fun _ h => h, fun b hb => ⟨hS0 b hb, .inl hb⟩, fun t => ?_, fun l ob' e => ?_, fun l l' o1 o2 g e1 e2 _ _ => ?_, fun l ob' g e hg => .inr hg, (fun u e => by cases e; rfl), Mps.none⟩⟩
    · have hget := get_tmps (V :: vs) (fn.ntmps - (V :: vs).toArray.size) t
      rw [hget]
      cases t with
      | zero => show RV _ _ _ _ _ (.own 0) V; unfold RV; exact ⟨⟨ob, rfl⟩, rfl⟩
      | succ t =>
        have := hat args vs t hargs
        simpa [St.initM] using this
    · by_cases h0 : l = 0
      · subst h0; have : ob' = ob := by simpa [St.initM] using e.symm
        subst this; exact hro
      · simp [St.initM, nbne h0] at e
    · by_cases h0 : l = 0
      · by_cases h1 : l' = 0
        · rw [h0, h1]
        · simp [St.initM, nbne h1] at e2
      · simp [St.initM, nbne h0] at e1
  refine calls_of_wp hf hb (acode_sound (M := some V) (W := w) (S0 := S0) hΘ hm c (RetM r ob.e ob.sz xs' v) _ _ _ _ hsim (fun e s a w' hs he => ?_) h)
  have hmain : (s.sl r = .v v ∧ s.hp 0 = some ⟨ob.e, ob.sz, xs'⟩) → a.defers = [] ∧ ∃ u, (results fn a.tmps).run P w' = .ok u w' ∧ Ending.returned u = .returned v ∧ w.grownBy w' V.ownBlock ∧ RO S0 w' 0 ⟨ob.e, ob.sz, xs'⟩ B V := by
    rintro ⟨h1, h2⟩
    obtain ⟨hn, hdf, S, B', V', hw⟩ := hs
    have hr := hw.sl r
    rw [h1] at hr
    unfold RV at hr
    have hv0 := hw.pin V rfl
    have hro' := hw.hp 0 _ h2
    rw [hv0] at hro'
    refine ⟨hdf, v, ?_, rfl, hw.below, ?_⟩
    · have := hr.1
      rw [Array.getD_eq_getD_getElem?] at this
      simp [results, hrs, this]
    · obtain ⟨cs, r1, r2, r3, r4, r5⟩ := hro'
      obtain ⟨_, _, _, _, _, q5⟩ := hro
      exact ⟨cs, RL.flat _ _ hfl r1, r2, r3, r4, fun g hg => ⟨(q5 g hg).1, fun hs => (r5 g hg).2 (hw.s0 g hs)⟩⟩
  cases e with
  | normal => exact hmain he
  | ret => exact hmain he
  | exit id => exact he.elim
end
end Go.Proofs.Ytmafbodblpgcjaa.AM
/- The machine over data: its rules, one by one, as the walks use them. -/
namespace Go.Proofs.Ytmafbodblpgcjaa.AM
open Go Go.RowKit
set_option linter.unusedVariables false

section
variable {P : Program} {Θ : Tab} {n : Nat} {Q : AEx → St → Prop} {s : St}
theorem c_seq {a b : Code} (h : ACode P Θ n a (AEx.then (ACode P Θ n b Q) Q) s) : ACode P Θ n (.seq a b) Q s := .inl h
theorem c_cut {a b : Code} {ι : Type} (I : ι → InvM) (h : ACode P Θ n a (AEx.then (fun s' => ∃ j, s'.leM (I j)) Q) s) (k : ∀ j, ACode P Θ n b Q (I j).st) : ACode P Θ n (.seq a b) Q s := .inr ⟨ι, I, h, k⟩
theorem c_skip (h : Q .normal s) : ACode P Θ n .skip Q s := h
theorem c_reg {id : Nat} {l : List Oper} (h : AOps P Θ n l.toArray false 0 l s (Q .normal)) : ACode P Θ n (.region id l.toArray false) Q s := ⟨(fun e => by cases e), h⟩
theorem c_dreg {id : Nat} {l : List Oper} (hB : Region.lexB .any l.toArray = true) (h : AOps P Θ n l.toArray true 0 l s (Q .normal)) : ACode P Θ n (.region id l.toArray true) Q s := ⟨fun _ => hB, h⟩
theorem c_cond_t {c : Operand} {x y : Code} (hc : s.ev c = .v (.bool true)) (h : ACode P Θ n x Q s) : ACode P Θ n (.cond c x y) Q s := ⟨true, hc, h⟩
theorem c_cond_f {c : Operand} {x y : Code} (hc : s.ev c = .v (.bool false)) (h : ACode P Θ n y Q s) : ACode P Θ n (.cond c x y) Q s := ⟨false, hc, h⟩
theorem c_block {id : Nat} {c : Code} (h : ACode P Θ n c (AEx.inBlock id Q) s) : ACode P Θ n (.block id c) Q s := h
theorem c_loop {c : Code} {ι : Type} (I : ι → InvM) (μ : ι → Nat) (i0 : ι) (h0 : s.leM (I i0)) (h : ∀ i, ACode P Θ n c (AEx.then (fun s' => ∃ j, s'.leM (I j) ∧ μ j < μ i) Q) (I i).st) : ACode P Θ n (.loop c) Q s := ⟨ι, I, μ, ⟨i0, h0⟩, h⟩
theorem c_exit {id : Nat} (h : Q (.exit id) s) : ACode P Θ n (.exit id) Q s := h
theorem c_ret (h : Q .ret s) : ACode P Θ n .ret Q s := h
theorem q_then {K : St → Prop} (h : K s) : AEx.then K Q .normal s := h
theorem q_thenx {K : St → Prop} {id : Nat} (h : Q (.exit id) s) : AEx.then K Q (.exit id) s := h
theorem q_thenr {K : St → Prop} (h : Q .ret s) : AEx.then K Q .ret s := h
theorem q_blkn {id : Nat} (h : Q .normal s) : AEx.inBlock id Q .normal s := h
theorem q_blkr {id : Nat} (h : Q .ret s) : AEx.inBlock id Q .ret s := h
theorem q_blkx {id : Nat} (h : Q .normal s) : AEx.inBlock id Q (.exit id) s := by show (bif Nat.beq id id then _ else _); simpa using h
theorem q_blko {id j : Nat} (hj : Nat.beq j id = false) (h : Q (.exit j) s) : AEx.inBlock id Q (.exit j) s := by show (bif Nat.beq j id then _ else _); rw [hj]; exact h
theorem q_ret {rs : List ResultVar} {out : Out} (h : Ret Θ rs out s) : RetQ Θ rs out .ret s := h
theorem q_retn {rs : List ResultVar} {out : Out} (h : Ret Θ rs out s) : RetQ Θ rs out .normal s := h

variable {ops : Array Oper} {draw : Bool} {k : Nat} {o : Oper} {r : List Oper} {K : St → Prop}
theorem o_nil (h : K s) : AOps P Θ n ops draw k [] s K := h
theorem o_step {e : Eff} (hg : guardA ops s o = some true) (hin : inN n o.dst = true) (hp : Pre P Θ o s e) (hu : draw = true → e.upd = none ∨ tied ops k = true) (h : AOps P Θ n ops draw (k + 1) r (s.app o.dst e) K) : AOps P Θ n ops draw k (o :: r) s K := by
  unfold AOps; rw [hg]; exact ⟨hin, e, hp, hu, h⟩
/-- a step whose datum is put, no row changed -/
theorem o_put {d : Option Tmp} {op : Op} {ty : TypeId} {pos : String} {after : Array Edge} {g : Option (Nat × Bool)} {v : AV} (hp : Pre P Θ ⟨d, op, ty, pos, after, g⟩ s ⟨v, none⟩) (hg : guardA ops s ⟨d, op, ty, pos, after, g⟩ = some true) (hin : inN n d = true) (h : AOps P Θ n ops draw (k + 1) r (s.put d v) K) : AOps P Θ n ops draw k (⟨d, op, ty, pos, after, g⟩ :: r) s K :=
  o_step hg hin hp (fun _ => .inl rfl) h
theorem o_skip (hg : guardA ops s o = some false) (hin : inN n o.dst = true) (h : AOps P Θ n ops draw (k + 1) r (s.put o.dst (.tup [])) K) : AOps P Θ n ops draw k (o :: r) s K := by
  unfold AOps; rw [hg]; exact ⟨hin, h⟩

variable {d : Option Tmp} {ty : TypeId} {pos : String} {after : Array Edge} {g : Option (Nat × Bool)}
theorem p_mv {t : Nat} {y : AV} (h : s.sl t = y) : Pre P Θ ⟨d, .move (.tmp t), ty, pos, after, g⟩ s ⟨y, none⟩ := ⟨(fun c e => by cases e), .inl (by rw [← h]; rfl)⟩
theorem p_as {t : Nat} {y : AV} (h : s.sl t = y) : Pre P Θ ⟨d, .assign (.tmp t), ty, pos, after, g⟩ s ⟨y, none⟩ := ⟨(fun c e => by cases e), .inl (by rw [← h]; rfl)⟩
theorem p_asc {c : Value} (h : c.oneCell' = true) : Pre P Θ ⟨d, .assign (.const c), ty, pos, after, g⟩ s ⟨.v c, none⟩ := ⟨(fun c' e => by cases e; exact h), .inl rfl⟩
theorem p_mvc {c : Value} (h : c.oneCell' = true) : Pre P Θ ⟨d, .move (.const c), ty, pos, after, g⟩ s ⟨.v c, none⟩ := ⟨(fun c' e => by cases e; exact h), .inl rfl⟩
theorem p_bin {op : BinOp} {t t2 : TypeId} {x y : Operand} {a b r : Value} (h : BinOK P op t x y a b r) (hx : s.ev x = .v a) (hy : s.ev y = .v b) (h1 : r.oneCell' = true) : Pre P Θ ⟨d, .binOp op t x y t2, ty, pos, after, g⟩ s ⟨.v r, none⟩ :=
  ⟨a, b, r, by rw [hx]; rfl, by rw [hy]; rfl, h, h1, rfl⟩
theorem p_not {t : TypeId} {x : Operand} {b : Bool} (hx : s.ev x = .v (.bool b)) : Pre P Θ ⟨d, .unOp .not t x, ty, pos, after, g⟩ s ⟨.v (.bool (!b)), none⟩ :=
  ⟨.bool b, .bool (!b), by rw [hx]; rfl, fun w => rfl, rfl, rfl⟩
def cOK : Operand → Bool
  | .const c => c.oneCell'
  | _ => true
theorem cOK_spec {x : Operand} (h : cOK x = true) : ∀ c, x = .const c → c.oneCell' = true := fun c e => by subst e; exact h
def csOK : List Operand → Bool
  | [] => true
  | x :: r => cOK x && csOK r
theorem csOK_spec : ∀ {xs : List Operand}, csOK xs = true → ∀ x ∈ xs, ∀ c, x = .const c → c.oneCell' = true
  | [], _, x, hx => by simp at hx
  | y :: ys, h, x, hx => by
    simp only [csOK, Bool.and_eq_true] at h
    rcases List.mem_cons.1 hx with rfl | hx
    · exact cOK_spec h.1
    · exact csOK_spec h.2 x hx
theorem p_pick {c x y : Operand} {t : Bool} {z : AV} (hc : s.ev c = .v (.bool t)) (hz : (bif t then s.ev x else s.ev y) = z) (hx : cOK x = true) (hy : cOK y = true) : Pre P Θ ⟨d, .pick c x y, ty, pos, after, g⟩ s ⟨z, none⟩ :=
  ⟨cOK_spec hx, cOK_spec hy, t, hc, by rw [hz]⟩
theorem p_len {x : Operand} {t : TypeId} {m : Nat} {y : AV} (hx : s.ev x = y) (hl : lenA s y = some m) (hok : lenOK Θ t y) : Pre P Θ ⟨d, .call ⟨.builtin .len, #[x], #[t]⟩, ty, pos, after, g⟩ s ⟨.v (.int .i64 (m : Int)), none⟩ :=
  ⟨x, t, m, rfl, rfl, by rw [hx]; exact hl, by rw [hx]; exact hok, rfl⟩
theorem p_lenm {α : Type} {xs : List α} {f : α → AV} {sz : Nat} {x : Operand} {t : TypeId} (hx : s.ev x = .lst sz (xs.map f)) (hok : ∃ e sz b z, Θ.look t = .slice e sz b z) : Pre P Θ ⟨d, .call ⟨.builtin .len, #[x], #[t]⟩, ty, pos, after, g⟩ s ⟨.v (.int .i64 (xs.length : Int)), none⟩ :=
  ⟨x, t, xs.length, rfl, rfl, by rw [hx]; simp [lenA], by rw [hx]; exact hok, rfl⟩
theorem p_lenom {α : Type} {xs : List α} {f : α → AV} {l sz e : Nat} {x : Operand} {t : TypeId} (hx : s.ev x = .own l) (ho : s.hp l = some ⟨e, sz, xs.map f⟩) (hok : ∃ e sz b z, Θ.look t = .slice e sz b z) : Pre P Θ ⟨d, .call ⟨.builtin .len, #[x], #[t]⟩, ty, pos, after, g⟩ s ⟨.v (.int .i64 (xs.length : Int)), none⟩ :=
  ⟨x, t, xs.length, rfl, rfl, by rw [hx]; simp [lenA, ho], by rw [hx]; exact hok, rfl⟩
theorem p_index {t : TypeId} {x i : Operand} {a : ByteArray} {k : IntKind} {j : Nat} (hT : TIok P t .str) (hx : s.ev x = .v (.string a)) (hi : s.ev i = .v (.int k (j : Int))) (hj : j < a.size) : Pre P Θ ⟨d, .index t x i, ty, pos, after, g⟩ s ⟨.v (.int .u8 ((a[j]).toNat : Int)), none⟩ := by
  refine ⟨_, _, _, by rw [hx]; rfl, by rw [hi]; rfl, fun w => ?_, rfl, rfl⟩
  have h0 : (0 : Int) ≤ (j : Int) := by omega
  simp [Instr.index, asIntOf, run_underlying hT.1, hj]
theorem p_idx {t el sz b : Nat} {z : AV} {x ix : Operand} {k : IntKind} {j : Nat} {xs : List AV} {y : AV} (hy : xs[j]? = some y) (ht : Θ.look t = .slice el sz b z) (hx : s.ev x = .lst sz xs) (hi : s.ev ix = .v (.int k ((j : Nat) : Int))) : Pre P Θ ⟨d, .indexAddr t x ix, ty, pos, after, g⟩ s ⟨.ptr y, none⟩ :=
  ⟨el, sz, b, z, k, j, ht, hi, .inl ⟨xs, y, hx, hy, rfl⟩⟩
theorem p_oidx {t el sz b : Nat} {z : AV} {x ix : Operand} {k : IntKind} {j l : Nat} {ob : OB} (hj : j < ob.xs.length) (ht : Θ.look t = .slice el sz b z) (hx : s.ev x = .own l) (hi : s.ev ix = .v (.int k ((j : Nat) : Int))) (ho : s.hp l = some ob) (hs : ob.sz = sz) : Pre P Θ ⟨d, .indexAddr t x ix, ty, pos, after, g⟩ s ⟨.optr l j [] 0, none⟩ :=
  ⟨el, sz, b, z, k, j, ht, hi, .inr ⟨l, ob, hx, ho, hs, hj, rfl⟩⟩
theorem p_fld {t : TypeId} {x : Operand} {f : Nat} {fs : List (Nat × Nat)} {z ys : List AV} {o_ z_ : Nat} {y : AV} (ht : Θ.look t = .struct fs z) (hf : fs[f]? = some (o_, z_)) (hx : s.ev x = .ptr (.agg ys)) (hy : ys[f]? = some y) (hs : aszs (ys.take f) = o_) : Pre P Θ ⟨d, .fieldAddr t x f, ty, pos, after, g⟩ s ⟨.ptr y, none⟩ :=
  ⟨fs, z, o_, z_, ht, hf, .inl ⟨ys, y, hx, hy, hs, rfl⟩⟩
theorem p_ofld {t : TypeId} {x : Operand} {f : Nat} {fs : List (Nat × Nat)} {z : List AV} {o_ z_ l i c : Nat} {p : List Nat} (ht : Θ.look t = .struct fs z) (hf : fs[f]? = some (o_, z_)) (hx : s.ev x = .optr l i p c) : Pre P Θ ⟨d, .fieldAddr t x f, ty, pos, after, g⟩ s ⟨.optr l i (p ++ [f]) (c + o_), none⟩ :=
  ⟨fs, z, o_, z_, ht, hf, .inr ⟨l, i, p, c, hx, rfl⟩⟩
theorem p_ld {t : TypeId} {x : Operand} {y : AV} (hx : s.ev x = .ptr y) (hk : (Θ.look t).known = true) (ha : isAggA y = (Θ.look t).isAgg) (hs : asz y = (Θ.look t).size) : Pre P Θ ⟨d, .load t x, ty, pos, after, g⟩ s ⟨y, none⟩ :=
  ⟨hk, .inl ⟨y, hx, ha, hs, rfl⟩⟩
theorem p_old {t : TypeId} {x : Operand} {l i c : Nat} {p : List Nat} {ob : OB} {y z : AV} (hx : s.ev x = .optr l i p c) (ho : s.hp l = some ob) (hy : ob.xs[i]? = some y) (hg : getP y p 0 = some (z, c)) (hk : (Θ.look t).known = true) (ha : isAggA z = (Θ.look t).isAgg) (hs : asz z = (Θ.look t).size) : Pre P Θ ⟨d, .load t x, ty, pos, after, g⟩ s ⟨z, none⟩ :=
  ⟨hk, .inr ⟨l, i, p, c, ob, y, z, hx, ho, hy, hg, ha, hs, rfl⟩⟩
theorem p_ext {x : Operand} {i : Nat} {xs : List AV} {y : AV} (hx : s.ev x = .tup xs) (hy : xs[i]? = some y) : Pre P Θ ⟨d, .extract x i, ty, pos, after, g⟩ s ⟨y, none⟩ := ⟨xs, y, hx, hy, rfl⟩
/-- a call whose result owns nothing; one whose result owns rows -/
theorem o_call0 {P : Program} {Θ : Tab} {n : Nat} {s : St} {ops : Array Oper} {draw : Bool} {k : Nat} {r : List Oper} {K : St → Prop} {ty : TypeId} {pos : String} {after : Array Edge} {g : Option (Nat × Bool)} {f : FuncId} {ags : Array Operand} {ts : Array TypeId} {t : Nat} {args : List AV} {v : AV} (hac : AC P f args ⟨v, []⟩) (ha : (ags.toList.map fun x => s.dat (s.ev x)) = args)
    (hg : guardA ops s ⟨some t, .call ⟨.value (.func f), ags, ts⟩, ty, pos, after, g⟩ = some true) (hin : inN n (some t) = true) (hfl : (ownsOf s ags.toList).isEmpty = true ∨ flatA v) (hok : argsOK s ags.toList = true) (hc : csOK ags.toList = true) (h : AOps P Θ n ops draw (k + 1) r (s.put (some t) (ren (t + 1) v)) K) :
    AOps P Θ n ops draw k (⟨some t, .call ⟨.value (.func f), ags, ts⟩, ty, pos, after, g⟩ :: r) s K :=
  o_put (v := ren (t + 1) v) (.inl ⟨t, ⟨v, []⟩, rfl, by rw [ha]; exact hac, hfl.imp id (fun h => ⟨h, by simp⟩), trivial, hok, csOK_spec hc, rfl⟩) hg hin h
/-- a call -/
theorem p_call {f : FuncId} {ags : Array Operand} {ts : Array TypeId} {t : Nat} {args : List AV} {out : Out} (hac : AC P f args out) (ha : (ags.toList.map fun x => s.dat (s.ev x)) = args) (hfl : (ownsOf s ags.toList).isEmpty = true ∨ out.flat) (hfr : freeObs s (t + 1) 0 out.obs) (hok : argsOK s ags.toList = true) (hc : csOK ags.toList = true) :
    Pre P Θ ⟨some t, .call ⟨.value (.func f), ags, ts⟩, ty, pos, after, g⟩ s ⟨ren (t + 1) out.val, setU (t + 1) out.obs⟩ :=
  .inl ⟨t, out, rfl, by rw [ha]; exact hac, hfl, hfr, hok, csOK_spec hc, rfl⟩
end

/-- a call that may hand back what it was given: the rows among the arguments are given up -/
theorem p_callf {P : Program} {Θ : Tab} {s : St} {ty : TypeId} {pos : String} {after : Array Edge} {g : Option (Nat × Bool)} {f : FuncId} {ags : Array Operand} {ts : Array TypeId} {t : Nat} {args : List AV} {out : Out} (hac : AC P f args out) (ha : (ags.toList.map fun x => s.dat (s.ev x)) = args) (hfr : freeObs s (t + 1) 0 out.obs) (hok : argsOK s ags.toList = true) (hc : csOK ags.toList = true) :
    Pre P Θ ⟨some t, .call ⟨.value (.func f), ags, ts⟩, ty, pos, after, g⟩ s ⟨ren (t + 1) out.val, frzT (ownsOf s ags.toList) (setObs (t + 1) 0 out.obs)⟩ :=
  .inr (.inr ⟨t, out, rfl, by rw [ha]; exact hac, hfr, hok, csOK_spec hc, rfl⟩)

/-- a call that writes into a row -/
theorem p_callm {P : Program} {Θ : Tab} {s : St} {d : Option Tmp} {ty : TypeId} {pos : String} {after : Array Edge} {g : Option (Nat × Bool)} {f : FuncId} {x : Operand} {r : List Operand} {ts : Array TypeId} {l : Nat} {ob : OB} {xs' args : List AV} {v : Value} (hac : ACM P f ob xs' args v) (hx : s.ev x = .own l) (ho : s.hp l = some ob) (ha : (r.map fun x => s.dat (s.ev x)) = args) (how : (ownsOf s r).isEmpty = true) (hok : argsOK s r = true) (hc : csOK r = true) (h1 : v.oneCell' = true) :
    Pre P Θ ⟨d, .call ⟨.value (.func f), (x :: r).toArray, ts⟩, ty, pos, after, g⟩ s ⟨.v v, some fun s => s.set l (some ⟨ob.e, ob.sz, xs'⟩)⟩ :=
  .inr (.inl ⟨x, r, l, ob, xs', v, rfl, hx, ho, by rw [ha]; exact hac, how, hok, csOK_spec hc, h1, rfl⟩)
/-- a move that gives a row up -/
theorem p_mvf {P : Program} {Θ : Tab} {s : St} {d : Option Tmp} {ty : TypeId} {pos : String} {after : Array Edge} {g : Option (Nat × Bool)} {t l : Nat} {ob : OB} (h : s.sl t = .own l) (ho : s.hp l = some ob) : Pre P Θ ⟨d, .move (.tmp t), ty, pos, after, g⟩ s ⟨.lst ob.sz ob.xs, some fun s => s.frz l⟩ :=
  ⟨(fun c e => by cases e), .inr (.inl ⟨l, ob, h, ho, rfl⟩)⟩

theorem p_asf {P : Program} {Θ : Tab} {s : St} {d : Option Tmp} {ty : TypeId} {pos : String} {after : Array Edge} {g : Option (Nat × Bool)} {t l : Nat} {ob : OB} (h : s.sl t = .own l) (ho : s.hp l = some ob) : Pre P Θ ⟨d, .assign (.tmp t), ty, pos, after, g⟩ s ⟨.lst ob.sz ob.xs, some fun s => s.frz l⟩ :=
  ⟨(fun c e => by cases e), .inr (.inl ⟨l, ob, h, ho, rfl⟩)⟩
theorem p_nila {P : Program} {Θ : Tab} {s : St} {d : Nat} {ty : TypeId} {pos : String} {after : Array Edge} {g : Option (Nat × Bool)} (el sz : Nat) (h : 0 < sz) : Pre P Θ ⟨some d, .assign (.const (.slice none 0 0)), ty, pos, after, g⟩ s ⟨.own (d + 1), some fun s => (s.kill (d + 1)).set (d + 1) (some ⟨el, sz, []⟩)⟩ :=
  ⟨(fun c e => by cases e; rfl), .inr (.inr (.inl ⟨d, el, sz, rfl, h, rfl, rfl⟩))⟩
theorem p_nilm {P : Program} {Θ : Tab} {s : St} {d : Nat} {ty : TypeId} {pos : String} {after : Array Edge} {g : Option (Nat × Bool)} (el sz : Nat) (h : 0 < sz) : Pre P Θ ⟨some d, .move (.const (.slice none 0 0)), ty, pos, after, g⟩ s ⟨.own (d + 1), some fun s => (s.kill (d + 1)).set (d + 1) (some ⟨el, sz, []⟩)⟩ :=
  ⟨(fun c e => by cases e; rfl), .inr (.inr (.inl ⟨d, el, sz, rfl, h, rfl, rfl⟩))⟩
theorem p_asl {P : Program} {Θ : Tab} {s : St} {d : Option Tmp} {ty : TypeId} {pos : String} {after : Array Edge} {g : Option (Nat × Bool)} {t l : Nat} {ob : OB} (L : Nat) (h : s.sl t = .own l) (ho : s.hp l = some ob) (hn : (Nat.beq L 0 || Nat.beq L l) = false) : Pre P Θ ⟨d, .assign (.tmp t), ty, pos, after, g⟩ s ⟨.own L, some fun s => s.relab l L ob⟩ :=
  ⟨(fun c e => by cases e), .inr (.inr (.inr ⟨l, L, ob, h, ho, fun e => by rw [e] at hn; simp at hn, fun e => by rw [e] at hn; simp at hn, rfl⟩))⟩
theorem p_make {P : Program} {Θ : Tab} {s : St} {d : Nat} {ty : TypeId} {pos : String} {after : Array Edge} {g : Option (Nat × Bool)} {t : TypeId} {l c : Operand} {el sz b n : Nat} {z : AV} {k k' : IntKind} (hn : b * n ≤ 140737488355328) (hn' : n ≤ 9223372036854775807) (hl : s.ev l = .v (.int k (n : Int))) (hc : s.ev c = .v (.int k' (n : Int))) (hf : s.hp (d + 1) = none) (ht : Θ.look t = .slice el sz b z) :
    Pre P Θ ⟨some d, .makeSlice t l c, ty, pos, after, g⟩ s ⟨.own (d + 1), some fun s => s.set (d + 1) (some ⟨el, sz, List.replicate n z⟩)⟩ := ⟨d, el, sz, b, z, n, k, k', rfl, hf, ht, hl, hc, hn, hn', rfl⟩

theorem p_box {P : Program} {Θ : Tab} {s : St} {ty : TypeId} {pos : String} {after : Array Edge} {g : Option (Nat × Bool)} {t : TypeId} {x : Operand} {d : Nat} {y : AV} (hf : s.hp (d + 1) = none) (hx : s.ev x = y) (hk : (match y with | .v c => c.oneCell' | .agg _ => true | .lst _ _ => true | _ => false) = true) (hs : ((Θ.look t).known && Nat.beq (asz y) (Θ.look t).size) = true) :
    Pre P Θ ⟨some d, .box t x, ty, pos, after, g⟩ s ⟨.optr (d + 1) 0 [] 0, some fun s' => s'.set (d + 1) (some ⟨t, (Θ.look t).size, [y]⟩)⟩ := by
  have hd : s.dat (s.ev x) = y := by rw [hx]; cases y <;> first | rfl | simp at hk
  have ho : ownsOf s [x] = [] := by unfold ownsOf; rw [hx]; cases y <;> first | rfl | simp at hk
  simp only [Bool.and_eq_true] at hs
  refine ⟨d, rfl, hf, hs.1, by rw [hd]; exact Nat.eq_of_beq_eq_true hs.2, by rw [hd]; cases y <;> first | exact hk | rfl, ?_⟩
  rw [hd, ho]; rfl
theorem p_allo {P : Program} {Θ : Tab} {s : St} {ty : TypeId} {pos : String} {after : Array Edge} {g : Option (Nat × Bool)} {t : TypeId} {d : Nat} (hf : s.hp (d + 1) = none) (hk : (Θ.look t).known = true) :
    Pre P Θ ⟨some d, .alloc t, ty, pos, after, g⟩ s ⟨.optr (d + 1) 0 [] 0, some fun s => s.set (d + 1) (some ⟨t, (Θ.look t).size, [(Θ.look t).zero]⟩)⟩ := ⟨d, rfl, hf, hk, rfl⟩

theorem getA {α : Type} (f : α → AV) {es : List α} {k : Nat} (h : k < es.length) : (es.map f)[k]? = some (f es[k]) := by simp [h]

/-! ### sums and comparisons -/
section
variable {P : Program} {t : TypeId} {x y : Operand} {k : IntKind} {a b : Int}
theorem b_lt_t (h : a < b) : BinOK P .lss t x y (.int k a) (.int k b) (.bool true) := fun w => by simp [eqGuard, binOp, Op.intCmp, h]
theorem b_lt_f (h : ¬ a < b) : BinOK P .lss t x y (.int k a) (.int k b) (.bool false) := fun w => by simp [eqGuard, binOp, Op.intCmp]; omega
theorem b_le_t (h : a ≤ b) : BinOK P .leq t x y (.int k a) (.int k b) (.bool true) := fun w => by simp [eqGuard, binOp, Op.intCmp, h]
theorem b_le_f (h : ¬ a ≤ b) : BinOK P .leq t x y (.int k a) (.int k b) (.bool false) := fun w => by simp [eqGuard, binOp, Op.intCmp]; omega
theorem b_gt_t (h : a > b) : BinOK P .gtr t x y (.int k a) (.int k b) (.bool true) := fun w => by simp [eqGuard, binOp, Op.intCmp]; omega
theorem b_gt_f (h : ¬ a > b) : BinOK P .gtr t x y (.int k a) (.int k b) (.bool false) := fun w => by simp [eqGuard, binOp, Op.intCmp]; omega
theorem b_ge_t (h : a ≥ b) : BinOK P .geq t x y (.int k a) (.int k b) (.bool true) := fun w => by simp [eqGuard, binOp, Op.intCmp]; omega
theorem b_ge_f (h : ¬ a ≥ b) : BinOK P .geq t x y (.int k a) (.int k b) (.bool false) := fun w => by simp [eqGuard, binOp, Op.intCmp]; omega
theorem b_eq_t (h : a = b) : BinOK P .eql t x y (.int k a) (.int k b) (.bool true) := fun w => by simp [eqGuard, binOp, Op.intCmp, h]
theorem b_eq_f (h : ¬ a = b) : BinOK P .eql t x y (.int k a) (.int k b) (.bool false) := fun w => by simp [eqGuard, binOp, Op.intCmp, h]
theorem b_ne_t (h : ¬ a = b) : BinOK P .neq t x y (.int k a) (.int k b) (.bool true) := fun w => by simp [eqGuard, binOp, Op.intCmp, h]
theorem b_ne_f (h : a = b) : BinOK P .neq t x y (.int k a) (.int k b) (.bool false) := fun w => by simp [eqGuard, binOp, Op.intCmp, h]
theorem b_add {c : Int} (h : c = a + b) (hl : -9223372036854775808 ≤ c) (hu : c ≤ 9223372036854775807) : BinOK P .add t x y (.int .i64 a) (.int .i64 b) (.int .i64 c) := fun w => by
  have hw : IntKind.i64.wrap (a + b) = c := by rw [IntKind.wrap_i64, ← h]; omega
  simp [eqGuard, binOp, Op.intArith, hw]
theorem b_sub {c : Int} (h : c = a - b) (hl : -9223372036854775808 ≤ c) (hu : c ≤ 9223372036854775807) : BinOK P .sub t x y (.int .i64 a) (.int .i64 b) (.int .i64 c) := fun w => by
  have hw : IntKind.i64.wrap (a - b) = c := by rw [IntKind.wrap_i64, ← h]; omega
  simp [eqGuard, binOp, Op.intArith, hw]
theorem b_str {op : BinOp} {a b : ByteArray} {r : Value} (h : ∀ w, (Op.stringOp op a b).run P w = .ok r w) : BinOK P op t x y (.string a) (.string b) r := fun w => by
  cases op <;> simp only [eqGuard, binOp] <;> first | exact h w | simpa using h w
end

/-! maps -/
section
variable {P : Program} {Θ : Tab} {s : St} {ty : TypeId} {pos : String} {after : Array Edge} {g : Option (Nat × Bool)} {t kt vt : TypeId} {z : AV} {l : Nat} {ent : List (ByteArray × AV)} {kk : ByteArray}
theorem p_mkmap {d : Nat} {x : Operand} {k : IntKind} {m : Int} (hf : s.hp (d + 1) = none) (ht : Θ.look t = .map kt vt z) (hx : s.ev x = .v (.int k m)) : Pre P Θ ⟨some d, .makeMap t (some x), ty, pos, after, g⟩ s ⟨.mapv (d + 1), some fun s => (s.set (d + 1) (some ⟨t, 1, []⟩)).setM (d + 1) []⟩ :=
  ⟨d, kt, vt, z, rfl, hf, ht, fun y hy => by simp at hy; subst hy; exact ⟨k, m, hx⟩, rfl⟩
theorem p_mkmap0 {d : Nat} (hf : s.hp (d + 1) = none) (ht : Θ.look t = .map kt vt z) : Pre P Θ ⟨some d, .makeMap t none, ty, pos, after, g⟩ s ⟨.mapv (d + 1), some fun s => (s.set (d + 1) (some ⟨t, 1, []⟩)).setM (d + 1) []⟩ :=
  ⟨d, kt, vt, z, rfl, hf, ht, fun y hy => by simp at hy, rfl⟩
theorem p_mapput {d : Option Tmp} {m k x : Operand} {v : AV} {b : Value} {ent' : List (ByteArray × AV)} (hm : s.ev m = .mapv l) (hp : s.mp l = some ent) (hk : s.ev k = .v (.string kk)) (hv : s.ev x = v) (hc : conc v = some b) (hcs : csOK [x] = true) (ht : Θ.look t = .map kt vt z) (he : mput ent kk v = ent') : Pre P Θ ⟨d, .mapUpdate t m k x, ty, pos, after, g⟩ s ⟨.any, some fun s' => s'.setM l ent'⟩ :=
  ⟨l, ent, kk, b, kt, vt, z, ht, hm, hp, hk, by rw [hv]; exact hc, fun c e => csOK_spec hcs x (by simp) c e, by rw [hv, he]⟩
theorem p_mapget {d : Option Tmp} {m k : Operand} {y : AV} {f : Bool} (hm : s.ev m = .mapv l) (hp : s.mp l = some ent) (hk : s.ev k = .v (.string kk)) (ht : Θ.look t = .map kt vt z) (hy : (mget ent kk).getD z = y) (hf : (mget ent kk).isSome = f) : Pre P Θ ⟨d, .lookup t m k true, ty, pos, after, g⟩ s ⟨.tup [y, .v (.bool f)], none⟩ :=
  ⟨l, ent, kk, kt, vt, z, ht, hm, hp, hk, by rw [hy, hf]; rfl⟩
theorem p_mapget1 {d : Option Tmp} {m k : Operand} {y : AV} (hm : s.ev m = .mapv l) (hp : s.mp l = some ent) (hk : s.ev k = .v (.string kk)) (ht : Θ.look t = .map kt vt z) (hy : (mget ent kk).getD z = y) : Pre P Θ ⟨d, .lookup t m k false, ty, pos, after, g⟩ s ⟨y, none⟩ :=
  ⟨l, ent, kk, kt, vt, z, ht, hm, hp, hk, by rw [hy]; rfl⟩
theorem p_mapdel {d : Option Tmp} {m k : Operand} {t2 : TypeId} {ent' : List (ByteArray × AV)} (hm : s.ev m = .mapv l) (hp : s.mp l = some ent) (hk : s.ev k = .v (.string kk)) (ht : Θ.look t = .map kt vt z) (he : mdel ent kk = ent') : Pre P Θ ⟨d, .call ⟨.builtin .delete, #[m, k], #[t, t2]⟩, ty, pos, after, g⟩ s ⟨.tup [], some fun s' => s'.setM l ent'⟩ :=
  ⟨m, k, t, t2, l, ent, kk, kt, vt, z, rfl, rfl, ht, hm, hp, hk, by rw [he]⟩
end
end Go.Proofs.Ytmafbodblpgcjaa.AM
/- The machine over data, run: what leaves no question is reckoned, and the goal stands at the next operation that asks one. -/
namespace Go.Proofs.Ytmafbodblpgcjaa.AM
open Go Go.RowKit
set_option linter.unusedVariables false

def force (x : AV) (k : AV → Option St) : Option St :=
  match x with
  | .any => none
  | .v c => k (.v c)
  | .agg xs => k (.agg xs)
  | .lst z xs => k (.lst z xs)
  | .ptr y => k (.ptr y)
  | .own l => k (.own l)
  | .optr l i p c => k (.optr l i p c)
  | .tup xs => k (.tup xs)
  | .mapv l => k (.mapv l)
theorem force_eq {x : AV} {k : AV → Option St} {s : St} (h : force x k = some s) : k x = some s := by
  cases x <;> first | exact h | cases h
def forceL : List AV → (List AV → Option St) → Option St
  | [], k => k []
  | x :: r, k => force x fun y => forceL r fun ys => k (y :: ys)
theorem forceL_eq {s : St} : ∀ {xs : List AV} {k : List AV → Option St}, forceL xs k = some s → k xs = some s
  | [], k, h => h
  | x :: r, k, h => forceL_eq (xs := r) (k := fun ys => k (x :: ys)) (force_eq (k := fun y => forceL r fun ys => k (y :: ys)) h)
def partsB (s : St) : List AV → List (Nat × Operand) → Bool
  | _, [] => true
  | z, (i, x) :: r => (match z[i]? with | some y => Nat.beq (asz (s.dat (s.ev x))) (asz y) | none => false) && (isDataA (s.dat (s.ev x)) && partsB s (z.set i (s.dat (s.ev x))) r)
theorem partsB_ok {s : St} : ∀ (ps : List (Nat × Operand)) (z : List AV), partsB s z ps = true → partsOK s z ps
  | [], z, _ => trivial
  | (i, x) :: r, z, h => by
    simp only [partsB, Bool.and_eq_true] at h
    refine ⟨?_, h.2.1, partsB_ok r _ h.2.2⟩
    have h1 := h.1
    split at h1
    · rename_i y hy; exact ⟨y, hy, Nat.eq_of_beq_eq_true h1⟩
    · cases h1
def nilAt (Θ : Tab) (draw : Bool) (dst : Option Tmp) (ty : TypeId) (c : Value) : Option (Nat × Nat × Nat) :=
  match c, dst, Θ.look ty with
  | .slice none 0 0, some d, .slice el sz _ _ => bif !draw && Nat.blt 0 sz then some (d, el, sz) else none
  | _, _, _ => none
theorem cond_some {α : Type} {b : Bool} {x : Option α} {y : α} (h : (bif b then x else none) = some y) : b = true ∧ x = some y := by cases b with
  | true => exact ⟨rfl, h⟩
  | false => cases h
theorem nilAt_ok {Θ : Tab} {draw : Bool} {dst : Option Tmp} {ty : TypeId} {c : Value} {d el sz : Nat} (h : nilAt Θ draw dst ty c = some (d, el, sz)) : dst = some d ∧ c = .slice none 0 0 ∧ draw = false ∧ 0 < sz := by
  unfold nilAt at h
  split at h
  · obtain ⟨h1, h2⟩ := cond_some h
    cases h2
    simp only [Bool.and_eq_true] at h1
    exact ⟨rfl, rfl, by cases draw <;> simp_all, by simpa using h1.2⟩
  · cases h
def stepOp (Θ : Tab) (draw : Bool) (o : Oper) (s : St) : Option St :=
  match o.op with
  | .move (.tmp t) => force (s.sl t) fun v => some (s.put o.dst v)
  | .assign (.tmp t) => force (s.sl t) fun v => some (s.put o.dst v)
  | .move (.const c) => match nilAt Θ draw o.dst o.type c with
    | some (d, el, sz) => some (((s.kill (d + 1)).set (d + 1) (some ⟨el, sz, []⟩)).put (some d) (.own (d + 1)))
    | none => bif c.oneCell' then some (s.put o.dst (.v c)) else none
  | .assign (.const c) => match nilAt Θ draw o.dst o.type c with
    | some (d, el, sz) => some (((s.kill (d + 1)).set (d + 1) (some ⟨el, sz, []⟩)).put (some d) (.own (d + 1)))
    | none => bif c.oneCell' then some (s.put o.dst (.v c)) else none
  | .pick c a b => match s.ev c with
    | .v (.bool t) => bif cOK a && cOK b then force (bif t then s.ev a else s.ev b) fun v => some (s.put o.dst v) else none
    | _ => none
  | .unOp .not _ x => match s.ev x with
    | .v (.bool b) => some (s.put o.dst (.v (.bool (!b))))
    | _ => none
  | .extract x i => match s.ev x with
    | .tup xs => match xs[i]? with
      | some y => force y fun v => some (s.put o.dst v)
      | none => none
    | _ => none
  | .fieldAddr t x f => match Θ.look t with
    | .struct fs _ => match fs[f]? with
      | some (o_, _) => match s.ev x with
        | .ptr (.agg ys) => match ys[f]? with
          | some y => bif Nat.beq (aszs (ys.take f)) o_ then some (s.put o.dst (.ptr y)) else none
          | none => none
        | .optr l i p c => some (s.put o.dst (.optr l i (p ++ [f]) (c + o_)))
        | _ => none
      | none => none
    | _ => none
  | .load t x => match s.ev x with
    | .ptr y => bif (Θ.look t).known && (Bool.xor (isAggA y) (Θ.look t).isAgg).not && Nat.beq (asz y) (Θ.look t).size then force y fun v => some (s.put o.dst v) else none
    | .optr l i p c => match s.hp l with
      | some ob => match ob.xs[i]? with
        | some y => match getP y p 0 with
          | some (z, c') => bif Nat.beq c' c && (Θ.look t).known && (Bool.xor (isAggA z) (Θ.look t).isAgg).not && Nat.beq (asz z) (Θ.look t).size then force z fun v => some (s.put o.dst v) else none
          | none => none
        | none => none
      | none => none
    | _ => none
  | .alloc t => match o.dst with
    | some d => match s.hp (d + 1) with
      | none => bif !draw && (Θ.look t).known then some ((s.set (d + 1) (some ⟨t, (Θ.look t).size, [(Θ.look t).zero]⟩)).put (some d) (.optr (d + 1) 0 [] 0)) else none
      | some _ => none
    | none => none
  | .box t x => match o.dst with
    | some d => match s.hp (d + 1) with
      | none => match s.ev x with
        | .agg ys => bif !draw && (Θ.look t).known && Nat.beq (asz (.agg ys)) (Θ.look t).size then some ((s.set (d + 1) (some ⟨t, (Θ.look t).size, [.agg ys]⟩)).put (some d) (.optr (d + 1) 0 [] 0)) else none
        | _ => none
      | some _ => none
    | none => none
  | .build t ps => match Θ.look t with
    | .struct _ z => bif (ownsOf s (ps.toList.map (·.2))).isEmpty && partsB s z ps.toList then forceL (setParts s z ps.toList) fun ys => some (s.put o.dst (.agg ys)) else none
    | _ => none
  | .buildSlice t m ps => match o.dst with
    | some d => match s.hp (d + 1) with
      | none => match Θ.look t with
        | .slice el sz _ z => bif !draw && ((ownsOf s (ps.toList.map (·.2))).isEmpty && (Nat.ble (m * sz) 65536 && partsB s (List.replicate m z) ps.toList)) then forceL (setParts s (List.replicate m z) ps.toList) fun ys => some ((s.set (d + 1) (some ⟨el, sz, ys⟩)).put (some d) (.own (d + 1))) else none
        | _ => none
      | some _ => none
    | none => none
  | _ => none

section
variable {P : Program} {Θ : Tab} {n : Nat} {ops : Array Oper} {draw : Bool} {s s' : St}
theorem xor_not {a b : Bool} (h : (Bool.xor a b).not = true) : a = b := by cases a <;> cases b <;> first | rfl | cases h
theorem stepOp_sound {o : Oper} (h : stepOp Θ draw o s = some s') : ∃ e, Pre P Θ o s e ∧ (draw = true → e.upd = none) ∧ s.app o.dst e = s' := by
  obtain ⟨dst, op, ty, pos, after, guard⟩ := o
  have fin : ∀ {v : AV}, Pre P Θ ⟨dst, op, ty, pos, after, guard⟩ s ⟨v, none⟩ → some (s.put dst v) = some s' → ∃ e, Pre P Θ ⟨dst, op, ty, pos, after, guard⟩ s e ∧ (draw = true → e.upd = none) ∧ s.app dst e = s' := fun hp he => ⟨_, hp, fun _ => rfl, by cases he; rfl⟩
  cases op with
  | move x => cases x with
    | tmp t => exact fin (p_mv rfl) (force_eq (k := fun v => some (s.put dst v)) h)
    | const c =>
      simp only [stepOp] at h
      split at h
      · rename_i d el sz hn
        obtain ⟨rfl, rfl, hd, h0⟩ := nilAt_ok hn
        refine ⟨_, p_nilm el sz h0, (fun e => by rw [e] at hd; cases hd), ?_⟩
        cases h; rfl
      · obtain ⟨h1, h2⟩ := cond_some h; exact fin (p_mvc h1) h2
    | _ => cases h
  | assign x => cases x with
    | tmp t => exact fin (p_as rfl) (force_eq (k := fun v => some (s.put dst v)) h)
    | const c =>
      simp only [stepOp] at h
      split at h
      · rename_i d el sz hn
        obtain ⟨rfl, rfl, hd, h0⟩ := nilAt_ok hn
        refine ⟨_, p_nila el sz h0, (fun e => by rw [e] at hd; cases hd), ?_⟩
        cases h; rfl
      · obtain ⟨h1, h2⟩ := cond_some h; exact fin (p_asc h1) h2
    | _ => cases h
  | pick c a b =>
    simp only [stepOp] at h
    split at h
    · rename_i t ht
      obtain ⟨h1, h2⟩ := cond_some h
      simp only [Bool.and_eq_true] at h1
      exact fin (p_pick ht rfl h1.1 h1.2) (force_eq h2)
    · cases h
  | unOp op t x =>
    cases op with
    | not =>
      simp only [stepOp] at h
      split at h
      · rename_i b hb; exact fin (p_not hb) h
      · cases h
    | _ => cases h
  | extract x i =>
    simp only [stepOp] at h
    split at h
    · rename_i xs hx
      split at h
      · rename_i y hy; exact fin (p_ext hx hy) (force_eq h)
      · cases h
    · cases h
  | fieldAddr t x f =>
    simp only [stepOp] at h
    split at h
    · rename_i fs z ht
      split at h
      · rename_i o_ z_ hf
        split at h
        · rename_i ys hx
          split at h
          · rename_i y hy
            obtain ⟨h1, h2⟩ := cond_some h
            exact fin (p_fld ht hf hx hy (Nat.eq_of_beq_eq_true h1)) h2
          · cases h
        · rename_i l i p c hx; exact fin (p_ofld ht hf hx) h
        · cases h
      · cases h
    · cases h
  | load t x =>
    simp only [stepOp] at h
    split at h
    · rename_i y hx
      obtain ⟨h1, h2⟩ := cond_some h
      simp only [Bool.and_eq_true] at h1
      exact fin (p_ld hx h1.1.1 (xor_not h1.1.2) (Nat.eq_of_beq_eq_true h1.2)) (force_eq h2)
    · rename_i l i p c hx
      split at h
      · rename_i ob ho
        split at h
        · rename_i y hy
          split at h
          · rename_i z c' hg
            obtain ⟨h1, h2⟩ := cond_some h
            simp only [Bool.and_eq_true] at h1
            have hc := Nat.eq_of_beq_eq_true h1.1.1.1
            subst hc
            exact fin (p_old hx ho hy hg h1.1.1.2 (xor_not h1.1.2) (Nat.eq_of_beq_eq_true h1.2)) (force_eq h2)
          · cases h
        · cases h
      · cases h
    · cases h
  | alloc t =>
    cases dst with
    | none => cases h
    | some d =>
      simp only [stepOp] at h
      split at h
      · rename_i hf
        obtain ⟨h1, h2⟩ := cond_some h
        simp only [Bool.and_eq_true] at h1
        refine ⟨_, p_allo hf h1.2, fun e => by rw [e] at h1; simp at h1, ?_⟩
        cases h2; rfl
      · cases h
  | box t x =>
    cases dst with
    | none => cases h
    | some d =>
      simp only [stepOp] at h
      split at h
      · rename_i hf
        split at h
        · rename_i ys hx
          obtain ⟨h1, h2⟩ := cond_some h
          simp only [Bool.and_eq_true] at h1
          refine ⟨_, p_box hf hx rfl (by simp only [Bool.and_eq_true]; exact ⟨h1.1.2, h1.2⟩), fun e => by rw [e] at h1; simp at h1, ?_⟩
          cases h2; rfl
        · cases h
      · cases h
  | build t ps =>
    simp only [stepOp] at h
    split at h
    · rename_i fs z ht
      obtain ⟨h1, h2⟩ := cond_some h
      simp only [Bool.and_eq_true] at h1
      have hown : ownsOf s (ps.toList.map (·.2)) = [] := by simpa using h1.1
      exact fin (v := .agg (setParts s z ps.toList)) ⟨fs, z, ht, partsB_ok _ _ h1.2, by rw [hown]; rfl⟩ (forceL_eq (k := fun ys => some (s.put dst (.agg ys))) h2)
    · cases h
  | buildSlice t m ps =>
    cases dst with
    | none => cases h
    | some d =>
      simp only [stepOp] at h
      split at h
      · rename_i hf
        split at h
        · rename_i el sz b z ht
          obtain ⟨h1, h2⟩ := cond_some h
          simp only [Bool.and_eq_true] at h1
          have hown : ownsOf s (ps.toList.map (·.2)) = [] := by simpa using h1.2.1
          have h3 := forceL_eq (k := fun ys => some ((s.set (d + 1) (some ⟨el, sz, ys⟩)).put (some d) (.own (d + 1)))) h2
          refine ⟨⟨.own (d + 1), some fun s' => s'.set (d + 1) (some ⟨el, sz, setParts s (List.replicate m z) ps.toList⟩)⟩, ⟨d, el, sz, b, z, rfl, hf, ht, Nat.le_of_ble_eq_true h1.2.2.1, partsB_ok _ _ h1.2.2.2, by rw [hown]; rfl⟩, fun e => by rw [e] at h1; simp at h1, ?_⟩
          cases h3; rfl
        · cases h
      · cases h
  | _ => cases h

def runK (P : Program) (Θ : Tab) (n : Nat) (ops : Array Oper) (draw : Bool) : Nat → List Oper → St → (St → Prop) → Prop
  | _, [], s, K => K s
  | k, o :: r, s, K =>
    match inN n o.dst with
    | false => False
    | true => match guardA ops s o with
      | some false => runK P Θ n ops draw (k + 1) r (s.put o.dst (.tup [])) K
      | some true => match stepOp Θ (draw && !(tied ops k)) o s with
        | some s' => runK P Θ n ops draw (k + 1) r s' K
        | none => AOps P Θ n ops draw k (o :: r) s K
      | none => AOps P Θ n ops draw k (o :: r) s K
theorem runK_sound {K : St → Prop} : ∀ (l : List Oper) (k : Nat) (s : St), runK P Θ n ops draw k l s K → AOps P Θ n ops draw k l s K
  | [], k, s, h => o_nil h
  | o :: r, k, s, h => by
    unfold runK at h
    cases hin : inN n o.dst with
    | false => rw [hin] at h; exact h.elim
    | true =>
      rw [hin] at h
      simp only at h
      cases hg : guardA ops s o with
      | none => rw [hg] at h; exact h
      | some b => cases b with
        | false => rw [hg] at h; exact o_skip hg hin (runK_sound r (k + 1) _ h)
        | true =>
          rw [hg] at h
          simp only at h
          cases hs : stepOp Θ (draw && !(tied ops k)) o s with
          | none => rw [hs] at h; exact h
          | some s' =>
            rw [hs] at h
            obtain ⟨e, hp, hu, he⟩ := stepOp_sound (P := P) hs
            exact o_step hg hin hp (fun hd => by cases ht : tied ops k with | true => exact .inr rfl | false => exact .inl (hu (by rw [hd, ht]; rfl))) (by rw [he]; exact runK_sound r (k + 1) _ h)

/-- the code run: a loop and a region's question stand still -/
def runC (P : Program) (Θ : Tab) (n : Nat) : Code → (AEx → St → Prop) → St → Prop
  | .skip, Q, s => Q .normal s
  | .label _, Q, s => Q .normal s
  | .region _ ops false, Q, s => runK P Θ n ops false 0 ops.toList s (Q .normal)
  | .region _ ops true, Q, s => Region.lexB .any ops = true ∧ runK P Θ n ops true 0 ops.toList s (Q .normal)
  | .seq a b, Q, s => runC P Θ n a (AEx.then (runC P Θ n b Q) Q) s
  | .cond c x y, Q, s => match s.ev c with
    | .v (.bool true) => runC P Θ n x Q s
    | .v (.bool false) => runC P Θ n y Q s
    | _ => ACode P Θ n (.cond c x y) Q s
  | .block id c, Q, s => runC P Θ n c (AEx.inBlock id Q) s
  | .exit id, Q, s => Q (.exit id) s
  | .ret, Q, s => Q .ret s
  | c, Q, s => ACode P Θ n c Q s
theorem acode_mono {Q Q' : AEx → St → Prop} : ∀ (c : Code) (s : St), (∀ e s, Q e s → Q' e s) → ACode P Θ n c Q s → ACode P Θ n c Q' s := by
  have ops_mono : ∀ {ops : Array Oper} {draw : Bool} {K K' : St → Prop} (l : List Oper) (k : Nat) (s : St), (∀ s, K s → K' s) → AOps P Θ n ops draw k l s K → AOps P Θ n ops draw k l s K' := by
    intro ops draw K K' l
    induction l with
    | nil => intro k s hk h; exact hk s h
    | cons o r ih =>
      intro k s hk h
      unfold AOps at h ⊢
      refine ⟨h.1, ?_⟩
      have h2 := h.2
      split
      · rename_i hg; simp only [hg] at h2; obtain ⟨e, a, b, c⟩ := h2; exact ⟨e, a, b, ih _ _ hk c⟩
      · rename_i hg; simp only [hg] at h2; exact ih _ _ hk h2
      · rename_i hg; simp only [hg] at h2
  intro c
  induction c generalizing Q Q' with
  | skip => intro s hq h; exact hq _ _ h
  | label l => intro s hq h; exact hq _ _ h
  | region id ops draw => intro s hq h; exact ⟨h.1, ops_mono _ _ _ (fun s h => hq _ _ h) h.2⟩
  | seq a b iha ihb =>
    intro s hq h
    rcases h with h | ⟨ι, I, h, k⟩
    · exact .inl (iha s (fun e s he => by cases e <;> first | exact ihb s hq he | exact hq _ _ he) h)
    · exact .inr ⟨ι, I, iha s (fun e s he => by cases e <;> first | exact he | exact hq _ _ he) h, fun j => ihb _ hq (k j)⟩
  | cond c x y ihx ihy => intro s hq h; obtain ⟨b, hc, h⟩ := h; refine ⟨b, hc, ?_⟩; cases b <;> first | exact ihx s hq h | exact ihy s hq h
  | block id c ih =>
    intro s hq h
    refine ih s (fun e s he => ?_) h
    cases e with
    | exit j =>
      show (bif Nat.beq j id then Q' .normal s else Q' (.exit j) s)
      have he' : (bif Nat.beq j id then Q .normal s else Q (.exit j) s) := he
      cases hb : Nat.beq j id with
      | true => rw [hb] at he'; exact hq _ _ he'
      | false => rw [hb] at he'; exact hq _ _ he'
    | normal => exact hq _ _ he
    | ret => exact hq _ _ he
  | loop c ih =>
    intro s hq h
    obtain ⟨ι, I, μ, h0, hr⟩ := h
    exact ⟨ι, I, μ, h0, fun i => ih _ (fun e s he => by cases e <;> first | exact he | exact hq _ _ he) (hr i)⟩
  | exit id => intro s hq h; exact hq _ _ h
  | ret => intro s hq h; exact hq _ _ h
  | rangeFunc _ _ _ _ => intro s hq h; exact h.elim
  | scope _ => intro s hq h; exact h.elim
  | goto _ => intro s hq h; exact h.elim
  | refuse _ => intro s hq h; exact h.elim
theorem runC_sound : ∀ (c : Code) (Q : AEx → St → Prop) (s : St), runC P Θ n c Q s → ACode P Θ n c Q s := by
  intro c
  induction c with
  | skip => intro Q s h; exact h
  | label l => intro Q s h; exact h
  | region id ops draw =>
    intro Q s h
    cases draw with
    | false => exact ⟨(fun e => by cases e), runK_sound _ _ _ h⟩
    | true => exact ⟨fun _ => h.1, runK_sound _ _ _ h.2⟩
  | seq a b iha ihb =>
    intro Q s h
    exact .inl (acode_mono a s (fun e s he => by cases e <;> first | exact ihb Q s he | exact he) (iha _ s h))
  | cond c x y ihx ihy =>
    intro Q s h
    simp only [runC] at h
    split at h
    · rename_i hc; exact ⟨true, hc, ihx Q s h⟩
    · rename_i hc; exact ⟨false, hc, ihy Q s h⟩
    · exact h
  | block id c ih => intro Q s h; exact ih _ s h
  | exit id => intro Q s h; exact h
  | ret => intro Q s h; exact h
  | loop c ih => intro Q s h; exact h
  | rangeFunc _ _ _ _ => intro Q s h; exact h
  | scope _ => intro Q s h; exact h
  | goto _ => intro Q s h; exact h
  | refuse _ => intro Q s h; exact h

variable {k : Nat} {r : List Oper} {K : St → Prop} {d : Option Tmp} {op : Op} {ty : TypeId} {pos : String} {after : Array Edge} {g : Option (Nat × Bool)}
/-- an operation that asks: its answer, and on -/
theorem r_put {v : AV} (hp : Pre P Θ ⟨d, op, ty, pos, after, g⟩ s ⟨v, none⟩) (hg : guardA ops s ⟨d, op, ty, pos, after, g⟩ = some true) (hin : inN n d = true) (h : runK P Θ n ops draw (k + 1) r (s.put d v) K) : AOps P Θ n ops draw k (⟨d, op, ty, pos, after, g⟩ :: r) s K :=
  o_put hp hg hin (runK_sound _ _ _ h)
theorem r_step {e : Eff} (hp : Pre P Θ ⟨d, op, ty, pos, after, g⟩ s e) (hg : guardA ops s ⟨d, op, ty, pos, after, g⟩ = some true) (hin : inN n d = true) (hu : draw = true → e.upd = none ∨ tied ops k = true) (h : runK P Θ n ops draw (k + 1) r (s.app d e) K) : AOps P Θ n ops draw k (⟨d, op, ty, pos, after, g⟩ :: r) s K :=
  o_step hg hin hp hu (runK_sound _ _ _ h)
theorem r_loopm {c : Code} {Q : AEx → St → Prop} {ι : Type} (I : ι → InvM) (μ : ι → Nat) (i0 : ι) (h0 : s.leM (I i0)) (h : ∀ i, runC P Θ n c (AEx.then (fun s' => ∃ j, s'.leM (I j) ∧ μ j < μ i) Q) (I i).st) : ACode P Θ n (.loop c) Q s :=
  c_loop I μ i0 h0 fun i => runC_sound _ _ _ (h i)
theorem r_loop {c : Code} {Q : AEx → St → Prop} {ι : Type} (I : ι → Inv) (μ : ι → Nat) (i0 : ι) (h0 : s.le (I i0)) (h : ∀ i, runC P Θ n c (AEx.then (fun s' => ∃ j, s'.le (I j) ∧ μ j < μ i) Q) (I i).st) : ACode P Θ n (.loop c) Q s :=
  c_loop (fun i => (I i).m) μ i0 ⟨h0, trivial⟩ fun i => acode_mono (Q := AEx.then (fun s' => ∃ j, s'.le (I j) ∧ μ j < μ i) Q) c _ (fun e s he => by
    cases e with
    | normal => obtain ⟨j, h1, h2⟩ := he; exact ⟨j, ⟨h1, trivial⟩, h2⟩
    | _ => exact he) (runC_sound _ _ _ (h i))
/-- the function's body, run -/
theorem r_of (hΘ : TabOK P Θ) (hm : P.follows .mixedOrders = true) {f : FuncId} {fn : Func} {c : Code} {n : Nat} {rs : List ResultVar} (hf : P.funcs[f]? = some fn) (hb : fn.body = some c) (hnt : fn.ntmps = n) (hrs : fn.results = rs.toArray) (hnm : (fn.name == "runtime.NumGoroutine") = false)
    {args : List AV} {out : Out} (hlen : Nat.ble args.length n = true) (h : runC P Θ n c (RetQ Θ rs out) (St.init args)) : AC P f args out :=
  ac_of hΘ hm hf hb hnt (by rw [hrs]) hnm (Nat.le_of_ble_eq_true hlen) (runC_sound _ _ _ h)
theorem r_ofM (hΘ : TabOK P Θ) (hm : P.follows .mixedOrders = true) {f : FuncId} {fn : Func} {c : Code} {n r : Nat} (hf : P.funcs[f]? = some fn) (hb : fn.body = some c) (hnt : fn.ntmps = n) (hrs : fn.results = #[.tmp r]) (hnm : (fn.name == "runtime.NumGoroutine") = false)
    {args : List AV} {ob : OB} {xs' : List AV} {v : Value} (hlen : Nat.ble (args.length + 1) n = true) (hfl : flatL xs') (h : runC P Θ n c (RetM r ob.e ob.sz xs' v) (St.initM ob args)) : ACM P f ob xs' args v :=
  acm_of hΘ hm hf hb hnt hrs hnm (Nat.le_of_ble_eq_true hlen) hfl (runC_sound _ _ _ h)
/-- append: of an element that a literal has just laid; of a list -/
theorem p_app1 {α : Type} {x y : Operand} {t el sz b l l' e' : Nat} {z : AV} {xs : List α} {f : α → AV} (e : α) (hb : (xs.length + 1) * b ≤ 140737488355328) (hx : s.ev x = .own l) (hy : s.ev y = .own l') (ho : s.hp l = some ⟨el, sz, xs.map f⟩) (ho' : s.hp l' = some ⟨e', sz, [f e]⟩) (hn : (Nat.beq l' l || Nat.beq l 0) = false) (ht : Θ.look t = .slice el sz b z) (hb1 : Nat.ble 1 b = true) :
    Pre P Θ ⟨d, .call ⟨.builtin .append, #[x, y], #[t, t]⟩, ty, pos, after, g⟩ s ⟨.own l, some fun s => (s.kill l).set l (some ⟨el, sz, (xs ++ [e]).map f⟩)⟩ := by
  simp only [Bool.or_eq_false_iff] at hn
  have n1 : l' ≠ l := fun h => by rw [h] at hn; simp at hn
  have n2 : l ≠ 0 := fun h => by rw [h] at hn; simp at hn
  have hb1' := Nat.le_of_ble_eq_true hb1
  have hm : xs.length + 1 ≤ maxLen := by
    have : (xs.length + 1) * 1 ≤ (xs.length + 1) * b := Nat.mul_le_mul_left _ hb1'
    unfold maxLen; omega
  exact ⟨x, y, t, el, sz, b, z, l, _, [f e], rfl, rfl, ht, hx, ho, n2, rfl, rfl, .inr ⟨l', _, hy, n1, ho', rfl, rfl⟩, by simpa using hb, by simpa using hm, by rw [List.map_append]; rfl⟩
theorem p_app1r {α : Type} {x y : Operand} {t el sz b l l' e' : Nat} {z : AV} {xs : List α} {f : α → AV} (e : α) (ys : List α) (hys : xs ++ [e] = ys) (hb : (xs.length + 1) * b ≤ 140737488355328) (hx : s.ev x = .own l) (hy : s.ev y = .own l') (ho : s.hp l = some ⟨el, sz, xs.map f⟩) (ho' : s.hp l' = some ⟨e', sz, [f e]⟩) (hn : (Nat.beq l' l || Nat.beq l 0) = false) (ht : Θ.look t = .slice el sz b z) (hb1 : Nat.ble 1 b = true) :
    Pre P Θ ⟨d, .call ⟨.builtin .append, #[x, y], #[t, t]⟩, ty, pos, after, g⟩ s ⟨.own l, some fun s => (s.kill l).set l (some ⟨el, sz, ys.map f⟩)⟩ := by
  subst hys; exact p_app1 e hb hx hy ho ho' hn ht hb1
theorem p_appl {α : Type} {x y : Operand} {t el sz b l : Nat} {z : AV} {xs ys : List α} {f : α → AV} (hb : (xs.length + ys.length) * b ≤ 140737488355328) (hx : s.ev x = .own l) (hy : s.ev y = .lst sz (ys.map f)) (ho : s.hp l = some ⟨el, sz, xs.map f⟩) (hn : Nat.beq l 0 = false) (ht : Θ.look t = .slice el sz b z) (hb1 : Nat.ble 1 b = true) :
    Pre P Θ ⟨d, .call ⟨.builtin .append, #[x, y], #[t, t]⟩, ty, pos, after, g⟩ s ⟨.own l, some fun s => (s.kill l).set l (some ⟨el, sz, (xs ++ ys).map f⟩)⟩ := by
  have n2 : l ≠ 0 := fun h => by rw [h] at hn; simp at hn
  have hb1' := Nat.le_of_ble_eq_true hb1
  have hm : xs.length + ys.length ≤ maxLen := by
    have : (xs.length + ys.length) * 1 ≤ (xs.length + ys.length) * b := Nat.mul_le_mul_left _ hb1'
    unfold maxLen; omega
  exact ⟨x, y, t, el, sz, b, z, l, _, ys.map f, rfl, rfl, ht, hx, ho, n2, rfl, rfl, .inl hy, by simpa using hb, by simpa using hm, by rw [List.map_append]⟩
/-- one value handed back, no row -/
theorem r_ret1 {t : Nat} {x : AV} {Θ : Tab} (h : s.sl t = x) (hx : (match x with | .v _ | .agg _ | .lst _ _ | .any => True | _ => False)) : RetQ Θ [.tmp t] ⟨x, []⟩ .ret s :=
  ⟨[], by simp, trivial, ⟨trivial, trivial⟩, trivial, ⟨.inl ⟨h, by cases x <;> first | trivial | exact hx⟩, trivial⟩⟩
theorem r_retM {r e sz : Nat} {xs' : List AV} {v : Value} (h1 : s.sl r = .v v) (h2 : s.hp 0 = some ⟨e, sz, xs'⟩) : RetM r e sz xs' v .ret s := ⟨h1, h2⟩
/-- one row handed back -/
theorem r_own1 {t l : Nat} {ob : OB} {Θ : Tab} (h : s.sl t = .own l) (ho : s.hp l = some ob) : RetQ Θ [.tmp t] ⟨.own 0, [ob]⟩ .ret s :=
  ⟨[l], by simp, ⟨ho, trivial⟩, ⟨trivial, trivial⟩, trivial, ⟨.inr (.inl ⟨l, 0, h, rfl, rfl⟩), trivial⟩⟩
theorem r_tupOV {t1 t2 l : Nat} {ob : OB} {v : Value} {Θ : Tab} (h1 : s.sl t1 = .own l) (h2 : s.sl t2 = .v v) (ho : s.hp l = some ob) : RetQ Θ [.tmp t1, .tmp t2] ⟨.tup [.own 0, .v v], [ob]⟩ .ret s :=
  ⟨[l], by simp, ⟨ho, trivial⟩, ⟨trivial, trivial, trivial⟩, ⟨_, rfl⟩, ⟨.inr (.inl ⟨l, 0, h1, rfl, rfl⟩), .inl ⟨h2, trivial⟩, trivial⟩⟩
theorem r_tupOOV {t1 t2 t3 l1 l2 : Nat} {o1 o2 : OB} {v : Value} {Θ : Tab} (h1 : s.sl t1 = .own l1) (h2 : s.sl t2 = .own l2) (h3 : s.sl t3 = .v v) (ho1 : s.hp l1 = some o1) (ho2 : s.hp l2 = some o2) (hn : Nat.beq l1 l2 = false) : RetQ Θ [.tmp t1, .tmp t2, .tmp t3] ⟨.tup [.own 0, .own 1, .v v], [o1, o2]⟩ .ret s :=
  ⟨[l1, l2], by simp; intro e; rw [e] at hn; simp at hn, ⟨ho1, ho2, trivial⟩, ⟨trivial, trivial, trivial, trivial⟩, ⟨_, rfl⟩, ⟨.inr (.inl ⟨l1, 0, h1, rfl, rfl⟩), .inr (.inl ⟨l2, 1, h2, rfl, rfl⟩), .inl ⟨h3, trivial⟩, trivial⟩⟩
theorem r_tupOO {t1 t2 l1 l2 : Nat} {o1 o2 : OB} {Θ : Tab} (h1 : s.sl t1 = .own l1) (h2 : s.sl t2 = .own l2) (ho1 : s.hp l1 = some o1) (ho2 : s.hp l2 = some o2) (hn : Nat.beq l1 l2 = false) : RetQ Θ [.tmp t1, .tmp t2] ⟨.tup [.own 0, .own 1], [o1, o2]⟩ .ret s :=
  ⟨[l1, l2], by simp; intro e; rw [e] at hn; simp at hn, ⟨ho1, ho2, trivial⟩, ⟨trivial, trivial, trivial⟩, ⟨_, rfl⟩, ⟨.inr (.inl ⟨l1, 0, h1, rfl, rfl⟩), .inr (.inl ⟨l2, 1, h2, rfl, rfl⟩), trivial⟩⟩
theorem r_tupCV {a t t2 l : Nat} {ob : OB} {x : AV} {v : Value} {Θ : Tab} (h1 : s.sl a = .optr l 0 [] 0) (ho : s.hp l = some ob) (hx : ob.xs[0]? = some x) (hk : ((Θ.look t).known && (Bool.xor (isAggA x) (Θ.look t).isAgg).not && Nat.beq (asz x) (Θ.look t).size) = true) (hd : (match x with | .v _ | .agg _ | .lst _ _ | .any => True | _ => False)) (h2 : s.sl t2 = .v v) :
    RetQ Θ [.cell a t, .tmp t2] ⟨.tup [x, .v v], []⟩ .ret s := by
  have hr : rvA s (.cell a t) = x := by
    show (match s.sl a with | .optr l 0 [] 0 => (match s.hp l with | some ob => (ob.xs[0]?).getD .any | none => .any) | .ptr x => x | _ => .any) = x
    rw [h1]; simp only [ho, hx, Option.getD_some]
  simp only [Bool.and_eq_true] at hk
  refine ⟨[], by simp, trivial, ⟨⟨hk.1.1, by rw [hr]; exact xor_not hk.1.2, by rw [hr]; exact Nat.eq_of_beq_eq_true hk.2, .inl ⟨l, ob, x, h1, ho, hx⟩⟩, trivial, trivial⟩, ⟨_, rfl⟩, ⟨.inl ⟨hr, by cases x <;> first | trivial | exact hd⟩, .inl ⟨h2, trivial⟩, trivial⟩⟩
end
end Go.Proofs.Ytmafbodblpgcjaa.AM
