/- The machine over data, second make (N15): a function's body walked gives the call's contract. -/
import Derived.Test.YtmafbodblpgcjaaN14
namespace Go.Proofs.Ytmafbodblpgcjaa.AM
open Go Go.RowKit
set_option linter.unusedVariables false
set_option linter.unusedSimpArgs false

/-- a result's datum -/
def rvA (s : St) : ResultVar → AV
  | .tmp t => s.sl t
  | .cell a _ => match s.sl a with
    | .optr l 0 [] 0 => match s.hp l with
      | some ob => bif ob.e.open_ then (ob.xs[0]?).getD .any else match openE ob.e ob.xs 0 with
        | some (.o _ 0 y) => (ofO y).getD .any
        | _ => .any
      | none => .any
    | .ptr x => x
    | _ => .any
def cellOK (s : St) (a : Tmp) : Prop :=
  (∃ l ob x, s.sl a = .optr l 0 [] 0 ∧ s.hp l = some ob ∧ ((ob.e.open_ = true ∧ ob.xs[0]? = some x) ∨ (ob.e.open_ = false ∧ ∃ t y, openE ob.e ob.xs 0 = some (.o t 0 y) ∧ ofO y = some x))) ∨ ∃ x, s.sl a = .ptr x
def rvOK (Θ : Tab) (s : St) : ResultVar → Prop
  | .tmp _ => True
  | .cell a t => (Θ.look t).known = true ∧ isAggA (rvA s (.cell a t)) = (Θ.look t).isAgg ∧ asz (rvA s (.cell a t)) = (Θ.look t).size ∧ cellOK s a
def rvsOK (Θ : Tab) (s : St) : List ResultVar → Prop
  | [] => True
  | r :: rs => rvOK Θ s r ∧ rvsOK Θ s rs
/-- a datum handed back: Ls are the rows that go with it, the k-th under k -/
def retA (s : St) (Ls : List Nat) (x y : AV) : Prop :=
  (x = mapA (fun k => Ls.getD k 0) y ∧ y.within (fun k => Nat.blt k Ls.length) = true) ∨ (isDataA s x = true ∧ ((ownsA x).all fun l => okL l && !Ls.contains l) = true ∧ y = s.dat x)
def retAs (s : St) (Ls : List Nat) : List AV → List AV → Prop
  | [], [] => True
  | x :: xs, y :: ys => retA s Ls x y ∧ retAs s Ls xs ys
  | _, _ => False
def retObs (s : St) : List Nat → List OB → Prop
  | [], [] => True
  | l :: ls, ob :: obs => (s.hp l = some ob ∧ okL l = true ∧ ob.e.shut = true) ∧ retObs s ls obs
  | _, _ => False
/-- the rows that were handed over -/
def retIn (s : St) : Nat → List OB → Prop
  | _, [] => True
  | k, ob :: r => s.hp k = some ob ∧ retIn s (k + 1000000) r
def outVals (rs : List ResultVar) (v : AV) : List AV :=
  match rs with
  | [_] => [v]
  | _ => match v with | .tup ys => ys | _ => [.own 0, .own 0, .own 0, .own 0, .own 0, .own 0]
def isTupOK (rs : List ResultVar) (v : AV) : Prop :=
  match rs with
  | [_] => True
  | _ => ∃ ys, v = .tup ys
def Ret (Θ : Tab) (rs : List ResultVar) (rout : List OB) (out : Out) (s : St) : Prop :=
  retIn s 0 rout ∧ ∃ Ls, Ls.Nodup ∧ retObs s Ls out.obs ∧ rvsOK Θ s rs ∧ isTupOK rs out.val ∧ retAs s Ls (rs.map (rvA s)) (outVals rs out.val)
def RetG (Θ : Tab) (rs : List ResultVar) (rout : List OB) (out : Out) : AEx → St → Prop
  | .normal, s | .ret, s => Ret Θ rs rout out s
  | _, _ => False
abbrev RetQ (Θ : Tab) (rs : List ResultVar) (out : Out) : AEx → St → Prop := RetG Θ rs [] out
def St.initG (rin : List OB) (args : List AV) : St := ⟨fun j => (args[j]?).getD .any, rowsF 0 rin, fun _ => none⟩
abbrev St.init (args : List AV) : St := St.initG [] args

section
variable {P : Program} {Θ : Tab} {W : World} {M : Hand} {S0 : Nat → Prop} {n : Nat} {s : St} {a : Act} {w : World} {S S' : Nat → Prop} {B : Nat → Nat} {V : Nat → Value} {T : Nat → Nat → Prop} {tmps : Array Value}

theorem rv_run (hΘ : TabOK P Θ) (h : SimW W M S0 s tmps w S B V T) (r : ResultVar) (hr : rvOK Θ s r) :
    ∃ v, (match r with | .tmp t => pure (tmps.getD t undef) | .cell a t => do loadVar t (← asAddr (tmps.getD a undef)) : Sem Value).run P w = .ok v w ∧ RV S w s.hp B V (rvA s r) v := by
  cases r with
  | tmp t => exact ⟨_, rfl, h.sl t⟩
  | cell a t =>
    obtain ⟨hk, hagg, hsz, hx⟩ := hr
    obtain ⟨i0, hi0, hs0, hag, _⟩ := ti_info (hΘ t) hk
    have hsl := h.sl a
    rcases hx with ⟨l, ob, x, hx, ho, hq⟩ | ⟨x, hx⟩
    · rw [hx] at hsl
      unfold RV at hsl
      obtain ⟨ob', ho', hpx⟩ := hsl
      rw [ho] at ho'; cases ho'
      simp only [Nat.zero_mul, Nat.zero_add] at hpx
      have hro := h.rows.ro l ob ho
      rcases hq with ⟨hop, hq⟩ | ⟨hop, t', y, hoe, hof⟩
      · have hrv : rvA s (.cell a t) = x := by simp [rvA, hx, ho, hq, hop]
        rw [hrv] at hagg hsz ⊢
        have hne : ob.xs ≠ [] := fun e => by rw [e] at hq; simp at hq
        obtain ⟨tt, cs, cap, cur, h0, hr, ha, hpos, hV, hheap, hc, hm, hs, ht⟩ := hro.block hne
        have hr' : RL S w ob.xs cs := by
          cases hoe : ob.e with
          | s _ => rw [hoe] at hr; exact hr
          | z _ => rw [hoe] at hr; exact RDL.toRL _ _ _ (fun g hg => (hr.1 g hg).elim) hr.2
          | _ => rw [hoe] at hop; cases hop
        obtain ⟨qs, k1, k2, k3, k4⟩ := RL.at 0 hr' hq
        have hcell : ∀ j u, qs[j]? = some u → w.cell? ⟨B l, 0 + j, none⟩ = some u := fun j u hu => by
          have h1 := k4 _ _ hu
          simp only [List.take_zero, aszs] at h1
          exact row_cell hheap ht h1
        obtain ⟨u, hu, eu, h1⟩ := data_rv (s := s) (B := B) (V := V) k1 hagg
        have hrun := run_load_at (P := P) (w := w) t hi0 (by rw [hs0, ← hsz]; exact (RA.size _ _ k1).symm) hcell (hag w) h1
        rw [eu] at hrun
        refine ⟨u, ?_, hu⟩
        simp only [hpx, asAddr, Sem.run_bind, Sem.run_pure, Result.andThen_ok]
        simpa [Instr.loadAt, Instr.sureAddr] using hrun
      · have hrv : rvA s (.cell a t) = x := by simp [rvA, hx, ho, hop, hoe, hof]
        rw [hrv] at hagg hsz ⊢
        obtain ⟨tt, cs, cap, cur, h0, hr, ha, hpos, hV, hheap, hc, hm, hs, ht⟩ := hro.block (hro.opn hoe)
        obtain ⟨_, hty, hr1⟩ := RK.opn ha hoe hr
        obtain ⟨vs, T1, Tr, k1, k2, k3, k4, k5⟩ := hr1.focus (p := []) (c := 0) (z := y) ha (by simp [getP])
        have hcell : ∀ j u, vs[j]? = some u → w.cell? ⟨B l, 0 + j, none⟩ = some u := fun j u hu => row_cell hheap ht (by have := k4 j u hu; simpa using this)
        obtain ⟨u, hu, eu, h1⟩ := RV.ofO k1 hof
        have hrun := run_load_at (P := P) (w := w) t hi0 (by rw [hs0, ← hsz, ofO_asz hof]; exact (RO1.size _ _ _ k1).symm) hcell (hag w) (by rw [← hagg]; exact h1)
        rw [← hagg, eu] at hrun
        refine ⟨u, ?_, hu⟩
        simp only [hpx, asAddr, Sem.run_bind, Sem.run_pure, Result.andThen_ok]
        simpa [Instr.loadAt, Instr.sureAddr] using hrun
    · have hrv : rvA s (.cell a t) = x := by simp [rvA, hx]
      rw [hrv] at hagg hsz ⊢
      rw [hx] at hsl
      unfold RV at hsl
      unfold RA at hsl
      obtain ⟨b, off, us, e, hb, hr, hc⟩ := hsl
      simp only [List.cons.injEq, and_true] at e
      obtain ⟨u, hu, eu, h1⟩ := data_rv (s := s) (B := B) (V := V) hr hagg
      have hrun := run_load_at (P := P) (w := w) t hi0 (by rw [hs0, ← hsz]; exact (RA.size _ _ hr).symm) hc (hag w) h1
      rw [eu] at hrun
      refine ⟨u, ?_, hu⟩
      simp only [e, asAddr, Sem.run_bind, Sem.run_pure, Result.andThen_ok]
      simpa [Instr.loadAt, Instr.sureAddr] using hrun
theorem rvs_run (hΘ : TabOK P Θ) (h : SimW W M S0 s tmps w S B V T) : ∀ (rs : List ResultVar), rvsOK Θ s rs →
    ∃ vs, (rs.mapM (fun | .tmp t => pure (tmps.getD t undef) | .cell a t => do loadVar t (← asAddr (tmps.getD a undef)) : ResultVar → Sem Value)).run P w = .ok vs w ∧ RVs S w s.hp B V (rs.map (rvA s)) vs ∧ vs.length = rs.length
  | [], _ => ⟨[], by simp, by simp only [List.map_nil]; unfold RVs; rfl, rfl⟩
  | r :: rs, hr => by
    obtain ⟨v, h1, h2⟩ := rv_run hΘ h r hr.1
    obtain ⟨vs, h3, h4, h5⟩ := rvs_run hΘ h rs hr.2
    refine ⟨v :: vs, ?_, by simp only [List.map_cons]; unfold RVs; exact ⟨v, vs, rfl, h2, h4⟩, by simp [h5]⟩
    simp only [List.mapM_cons, Sem.run_bind, h1, Result.andThen_ok, h3, Sem.run_pure]

theorem retObs_at : ∀ (Ls : List Nat) (obs : List OB), retObs s Ls obs → ∀ (k : Nat) (ob : OB), obs[k]? = some ob → ∃ l, Ls[k]? = some l ∧ s.hp l = some ob ∧ okL l = true ∧ ob.e.shut = true
  | [], [], _, k, ob, h => by simp at h
  | [], _ :: _, h, _, _, _ => h.elim
  | _ :: _, [], h, _, _, _ => h.elim
  | l :: ls, o :: obs, h, 0, ob, e => by simp at e; subst e; exact ⟨l, rfl, h.1⟩
  | l :: ls, o :: obs, h, k + 1, ob, e => by simpa using retObs_at ls obs h.2 k ob (by simpa using e)
theorem retObs_back : ∀ (Ls : List Nat) (obs : List OB), retObs s Ls obs → ∀ (k l : Nat), Ls[k]? = some l → ∃ ob, obs[k]? = some ob ∧ s.hp l = some ob ∧ okL l = true
  | [], [], _, k, l, h => by simp at h
  | [], _ :: _, h, _, _, _ => h.elim
  | _ :: _, [], h, _, _, _ => h.elim
  | l :: ls, o :: obs, h, 0, l', e => by simp at e; subst e; exact ⟨o, rfl, h.1.1, h.1.2.1⟩
  | l :: ls, o :: obs, h, k + 1, l', e => by simpa using retObs_back ls obs h.2 k l' (by simpa using e)
theorem retIn_at : ∀ (rout : List OB) (b l : Nat) (ob : OB), retIn s b rout → rowsF b rout l = some ob → s.hp l = some ob
  | [], b, l, ob, _, h => by simp [rowsF] at h
  | o :: obs, b, l, ob, hr, h => by
    simp only [rowsF] at h
    by_cases e : l = b
    · subst e; simp at h; subst h; exact hr.1
    · rw [nbne e] at h; exact retIn_at obs _ l ob hr.2 h
theorem handed_okL {rin : List OB} {l : Nat} {ob : OB} (h : rowsF 0 rin l = some ob) : okL l = false := by
  obtain ⟨k, h1, _⟩ := rowsF_at rin 0 l ob h
  subst h1
  cases k with
  | zero => rfl
  | succ k =>
    have : Nat.blt (0 + 1000000 * (k + 1)) 1000000 = false := by
      cases hb : Nat.blt (0 + 1000000 * (k + 1)) 1000000 with
      | false => rfl
      | true => have := Nat.lt_of_lt_of_le (Nat.lt_succ_self _) (Nat.le_of_ble_eq_true hb); omega
    unfold okL; rw [this, Bool.and_false]
theorem dat_any {x : AV} {u : Value} {hp' hp2 : Nat → Option OB} {B' B2 : Nat → Nat} {V' V2 : Nat → Value} (h : RV S' w hp' B' V' x u) (hn : ∀ l, x.names l = false) : RV S' w hp2 B2 V2 x u :=
  RV.carry (fun _ h => h) (fun _ _ => rfl) _ _ (fun l hl => by rw [hn l] at hl; cases hl) h
theorem ret_rv (h : SimW W M S0 s tmps w S B V T) {Ls : List Nat} {obs : List OB} (ho : retObs s Ls obs) (hm : ∀ b, S b → S' b) (hS : ∀ l ob g, okL l = true → l ∉ Ls → s.hp l = some ob → Blk V T l g → S' g) {x y : AV} {u : Value} (hr : retA s Ls x y) (hx : RV S w s.hp B V x u) :
    RV S' w (obsF obs) (fun k => B (Ls.getD k 0)) (fun k => V (Ls.getD k 0)) y u := by
  rcases hr with ⟨rfl, hw⟩ | ⟨hd, hn, rfl⟩
  · have := (RV.map (S := S) (w := w) (hp := obsF obs) (hp' := s.hp) (B := fun k => B (Ls.getD k 0)) (B' := B) (V := fun k => V (Ls.getD k 0)) (V' := V) (ρ := fun k => Ls.getD k 0) y u (fun k hk => by
      have := within_names y hw hk
      have hlt : k < Ls.length := Nat.le_of_ble_eq_true this
      obtain ⟨ob, h1, h2, _⟩ := retObs_back Ls obs ho k _ (List.getElem?_eq_getElem hlt)
      have hg : Ls.getD k 0 = Ls[k] := by simp [List.getD, List.getElem?_eq_getElem hlt]
      exact ⟨ob, ob, h1, by show s.hp (Ls.getD k 0) = _; rw [hg]; exact h2, rfl, rfl, rfl⟩)).2 hx
    exact RV.carry hm (fun _ _ => rfl) _ _ (fun l _ => Same.refl l) this
  · refine (dat_rv h hm (fun l hl ob hob _ g hg => ?_) hd hx).1
    have := List.all_eq_true.1 hn l hl
    simp only [Bool.and_eq_true, Bool.not_eq_true', List.contains_eq_mem, decide_eq_false_iff_not] at this
    exact hS l ob g this.1 this.2 hob hg
theorem ret_rvs (h : SimW W M S0 s tmps w S B V T) {Ls : List Nat} {obs : List OB} (ho : retObs s Ls obs) (hm : ∀ b, S b → S' b) (hS : ∀ l ob g, okL l = true → l ∉ Ls → s.hp l = some ob → Blk V T l g → S' g) : ∀ (xs ys : List AV) (us : List Value), retAs s Ls xs ys → RVs S w s.hp B V xs us →
    RVs S' w (obsF obs) (fun k => B (Ls.getD k 0)) (fun k => V (Ls.getD k 0)) ys us
  | [], [], us, _, hx => by unfold RVs at hx ⊢; exact hx
  | [], _ :: _, us, h, _ => h.elim
  | _ :: _, [], us, h, _ => h.elim
  | x :: xs, y :: ys, us, hr, hx => by
    unfold RVs at hx ⊢
    obtain ⟨u, us', e, h1, h2⟩ := hx
    exact ⟨u, us', e, ret_rv h ho hm hS hr.1 h1, ret_rvs h ho hm hS xs ys us' hr.2 h2⟩
theorem RVs.len {hp : Nat → Option OB} : ∀ (xs : List AV) (us : List Value), RVs S w hp B V xs us → us.length = xs.length
  | [], us, h => by unfold RVs at h; rw [h]; rfl
  | x :: xs, us, h => by unfold RVs at h; obtain ⟨u, us', rfl, _, h2⟩ := h; simp [RVs.len xs us' h2]
theorem RVs.get {hp : Nat → Option OB} : ∀ (xs : List AV) (us : List Value) (j : Nat), RVs S w hp B V xs us → RV S w hp B V ((xs[j]?).getD .any) ((us[j]?).getD undef)
  | [], us, j, h => by show RV _ _ _ _ _ .any _; unfold RV; trivial
  | x :: xs, us, j, h => by
    unfold RVs at h
    obtain ⟨u, us', rfl, h1, h2⟩ := h
    cases j with
    | zero => exact h1
    | succ j => simpa using RVs.get xs us' j h2
theorem get_tmps (l : List Value) (k t : Nat) : (l.toArray ++ Array.replicate k undef).getD t undef = (l[t]?).getD undef := by
  simp only [Array.getD_eq_getD_getElem?, Array.getElem?_append, List.size_toArray]
  by_cases ht : t < l.length
  · simp [ht]
  · simp [ht, Array.getElem?_replicate]
    split <;> rfl

/-- **A CONTRACT OUT OF THE BODY.** -/
theorem acg_of (hΘ : TabOK P Θ) (hm : P.follows .mixedOrders = true) {f : FuncId} {fn : Func} {c : Code} {n : Nat} {rs : List ResultVar} (hf : P.funcs[f]? = some fn) (hb : fn.body = some c) (hnt : fn.ntmps = n) (hrs : fn.results.toList = rs) (hnm : (fn.name == "runtime.NumGoroutine") = false)
    {args : List AV} {rin rout : List OB} {out : Out} (hlen : args.length ≤ n) (hrl : rout.length = rin.length) (hwr : (rout.all fun ob => withinE (fun l => (rowsF 0 rout l).isSome) ob.e) = true) (h : ACode P Θ n c (RetG Θ rs rout out) (St.initG rin args)) : ACG P f args rin rout out := by
  refine ⟨fun vs w => by simp only [callFunc, Sem.run_bind, run_program, Result.andThen_ok, hf, hnm, hb]; rfl, fun w S0 B0 V0 T0 vs hS0 hrows hargs => ?_⟩
  have hvl := RVs.len _ _ hargs
  let M : Hand := ⟨HB (rowsF 0 rin) V0 T0, fun l => (rowsF 0 rin l).map fun _ => (B0 l, V0 l)⟩
  have hsim : Sim w M S0 n (St.initG rin args) { tmps := vs.toArray ++ Array.replicate (fn.ntmps - vs.toArray.size) undef, defers := [] } w := by
    refine ⟨by simp; omega, rfl, S0, B0, V0, T0, ⟨Grown.refl _ _, fun _ h => h, fun b hb => ⟨hS0 b hb, .inl hb⟩, fun t => ?_, ⟨hrows.ro, fun l ob g ho hg => ⟨(hrows.me l ob g ho hg).1, (hrows.me l ob g ho hg).2.1, .inr ⟨l, ob, ho, hg⟩⟩, hrows.nd, hrows.ds, fun l es e => by cases e⟩, fun l b u e => ?_⟩⟩
    · rw [get_tmps]; exact RVs.get args vs t hargs
    · obtain ⟨ob, ho, e⟩ := Option.map_eq_some_iff.1 e
      cases e
      exact ⟨handed_okL ho, rfl, rfl⟩
  refine calls_of_wp hf hb (acode_sound (M := M) (W := w) (S0 := S0) hΘ hm c (RetG Θ rs rout out) _ _ _ _ hsim (fun e s a w' hs he => ?_) h)
  have hmain : Ret Θ rs rout out s → a.defers = [] ∧ ∃ v, (results fn a.tmps).run P w' = .ok v w' ∧ ∃ v' S B V T T1, Ending.returned v = .returned v' ∧ Grown w w' (HB (rowsF 0 rin) V0 T0) ∧ (∀ b, S0 b → S b) ∧ (∀ b, S b → b < w'.heap.size ∧ (S0 b ∨ w.heap.size ≤ b ∨ HB (rowsF 0 rin) V0 T0 b)) ∧
      RV S w' (obsF out.obs) B V out.val v' ∧ Rows S w' (obsF out.obs) (fun _ => none) B V T (fun g => w.heap.size ≤ g ∨ HB (rowsF 0 rin) V0 T0 g) ∧
      Rows S w' (rowsF 0 rout) (fun _ => none) B0 V0 T1 (fun g => w.heap.size ≤ g ∨ HB (rowsF 0 rin) V0 T0 g) ∧
      ∀ l l' ob ob' g, obsF out.obs l = some ob → rowsF 0 rout l' = some ob' → Blk V T l g → ¬ Blk V0 T1 l' g := by
    rintro ⟨hin, Ls, hnd, hobs, hrvs, htup, hret⟩
    obtain ⟨hn, hdf, S, B, V, T, hw⟩ := hs
    obtain ⟨us, hrun, hrv, hul⟩ := rvs_run hΘ hw rs hrvs
    let S' : Nat → Prop := fun g => S g ∨ ∃ l ob, okL l = true ∧ l ∉ Ls ∧ s.hp l = some ob ∧ Blk V T l g
    have hm' : ∀ b, S b → S' b := fun b hb => .inl hb
    have hrets := ret_rvs (S' := S') hw hobs hm' (fun l ob g h1 h2 h3 h4 => .inr ⟨l, ob, h1, h2, h3, h4⟩) _ _ us hret hrv
    have hhd : ∀ l ob, rowsF 0 rout l = some ob → s.hp l = some ob ∧ B l = B0 l ∧ V l = V0 l ∧ okL l = false := fun l ob e => by
      have h1 := retIn_at rout 0 l ob hin e
      obtain ⟨k, e1, e2⟩ := rowsF_at rout 0 l ob e
      have hlt : k < rin.length := by rw [← hrl]; exact (List.getElem?_eq_some_iff.1 e2).1
      have h2 : rowsF 0 rin l = some rin[k] := by rw [e1, rowsF_k]; exact List.getElem?_eq_getElem hlt
      obtain ⟨q1, q2, q3⟩ := hw.pin l (B0 l) (V0 l) (by show (rowsF 0 rin l).map _ = _; rw [h2]; rfl)
      exact ⟨h1, q2, q3, q1⟩
    have hnot : ∀ j o g, s.hp j = some o → Blk V T j g → (j ∈ Ls ∨ okL j = false) → ¬ S' g := fun j o g ho hg hj hs => by
      rcases hs with hs | ⟨l', ob', hk, hno, ho2, hg'⟩
      · exact (hw.rows.me j o g ho hg).1 hs
      · have := hw.rows.ds j l' o ob' g ho ho2 hg hg'
        subst this
        rcases hj with hj | hj
        · exact hno hj
        · rw [hk] at hj; cases hj
    have hLs : ∀ k ob, obsF out.obs k = some ob → ∃ l, Ls[k]? = some l ∧ s.hp l = some ob ∧ okL l = true ∧ ob.e.shut = true ∧ Ls.getD k 0 = l := fun k ob e => by
      obtain ⟨l, h1, h2, h3, h4⟩ := retObs_at Ls _ hobs k ob e
      exact ⟨l, h1, h2, h3, h4, by simp [List.getD, h1]⟩
    have hblk : ∀ k g, Blk (fun k => V (Ls.getD k 0)) (fun k => T (Ls.getD k 0)) k g = Blk V T (Ls.getD k 0) g := fun k g => rfl
    refine ⟨hdf, (if h : us.toArray.size = 1 then us.toArray[0] else .tuple us.toArray), ?_, _, S', fun k => B (Ls.getD k 0), fun k => V (Ls.getD k 0), fun k => T (Ls.getD k 0), T, rfl, hw.below, fun b hb => .inl (hw.s0 b hb), fun b hb => ?_, ?_, ⟨fun k ob ho => ?_, fun k ob g ho hg => ?_, fun k ob g ho hg => ?_, fun k k' o1 o2 g h1 h2 e1 e2 => ?_, fun l es e => by cases e⟩, ⟨fun l ob ho => ?_, fun l ob g ho hg => ?_, fun l ob g ho hg => ?_, fun l l' o1 o2 g h1 h2 e1 e2 => ?_, fun l es e => by cases e⟩, fun k l o1 o2 g h1 h2 e1 e2 => ?_⟩
    · have hmp : (fn.results.mapM (fun | .tmp t => pure (a.tmps.getD t undef) | .cell a' t => do loadVar t (← asAddr (a.tmps.getD a' undef)) : ResultVar → Sem Value)).run P w' = .ok us.toArray w' := by
        rw [Array.mapM_eq_mapM_toList, hrs]
        simp only [Sem.run_map, hrun, Result.andThen_ok]
      unfold results
      rw [Sem.run_bind]
      exact (congrArg (fun r => Result.andThen r fun (a : Array Value) w' => Sem.run P (pure (if h : a.size = 1 then a[0] else Value.tuple a)) w') hmp).trans rfl
    · rcases hb with hb | ⟨l, ob, _, _, ho, hg⟩
      · exact hw.slt b hb
      · exact ⟨(hw.rows.me l ob b ho hg).2.1, .inr (hw.rows.me l ob b ho hg).2.2⟩
    · match rs, us, hul, htup, hrets with
      | [r], [u], _, _, hq =>
        have : RVs _ _ _ _ _ [out.val] [u] := hq
        unfold RVs at this
        obtain ⟨u', us', e, h1, _⟩ := this
        cases e
        exact h1
      | [], us, hul, htup, hq =>
        obtain ⟨ys, hy⟩ := htup
        have : us = [] := List.eq_nil_of_length_eq_zero hul
        subst this
        rw [hy] at hq ⊢
        unfold RV
        exact ⟨[], by simp, hq⟩
      | r1 :: r2 :: rest, us, hul, htup, hq =>
        obtain ⟨ys, hy⟩ := htup
        rw [hy] at hq ⊢
        unfold RV
        have hne : ¬ us.toArray.size = 1 := by simp only [List.size_toArray]; rw [hul]; simp
        rw [dif_neg hne]
        exact ⟨us, rfl, hq⟩
    · obtain ⟨l, h1, h2, h3, h4, h5⟩ := hLs k ob ho
      simp only [h5]
      exact ((hw.rows.ro l ob h2).carry hm' (fun _ _ => rfl) (fun j _ => Same.refl j) (fun _ _ => rfl) (fun _ _ => rfl)).any h4
    · obtain ⟨l, h1, h2, h3, h4, h5⟩ := hLs k ob ho
      rw [hblk, h5] at hg
      exact ⟨hnot l ob g h2 hg (.inl (List.mem_of_getElem? h1)), (hw.rows.me l ob g h2 hg).2⟩
    · obtain ⟨l, h1, h2, h3, h4, h5⟩ := hLs k ob ho
      simp only [h5] at hg ⊢
      exact hw.rows.nd l ob g h2 hg
    · obtain ⟨l, a1, a2, a3, a4, a5⟩ := hLs k o1 h1
      obtain ⟨l', b1, b2, b3, b4, b5⟩ := hLs k' o2 h2
      rw [hblk, a5] at e1
      rw [hblk, b5] at e2
      have := hw.rows.ds l l' o1 o2 g a2 b2 e1 e2
      subst this
      exact nodup_at hnd a1 b1
    · obtain ⟨h1, h2, h3, h4⟩ := hhd l ob ho
      rw [← h2, ← h3]
      obtain ⟨k, _, hk⟩ := rowsF_at rout 0 l ob ho
      refine (hw.rows.ro l ob h1).carry hm' (fun _ _ => rfl) (fun j hj o hjo => ?_) (fun _ _ => rfl) (fun _ _ => rfl)
      have := withinE_names (List.all_eq_true.1 hwr ob (List.mem_of_getElem? hk)) hj
      obtain ⟨o', ho'⟩ := Option.isSome_iff_exists.1 this
      obtain ⟨q1, q2, q3, _⟩ := hhd j o' ho'
      rw [q1] at hjo; cases hjo
      exact ⟨_, ho', rfl, q3.symm, q2.symm⟩
    · obtain ⟨h1, h2, h3, h4⟩ := hhd l ob ho
      have hg' : Blk V T l g := by unfold Blk at hg ⊢; rw [h3]; exact hg
      exact ⟨hnot l ob g h1 hg' (.inr h4), (hw.rows.me l ob g h1 hg').2⟩
    · obtain ⟨h1, h2, h3, h4⟩ := hhd l ob ho
      rw [← h3] at hg
      exact hw.rows.nd l ob g h1 hg
    · obtain ⟨a1, a2, a3, a4⟩ := hhd l o1 h1
      obtain ⟨b1, b2, b3, b4⟩ := hhd l' o2 h2
      exact hw.rows.ds l l' o1 o2 g a1 b1 (by unfold Blk at e1 ⊢; rw [a3]; exact e1) (by unfold Blk at e2 ⊢; rw [b3]; exact e2)
    · obtain ⟨l0, a1, a2, a3, a4, a5⟩ := hLs k o1 h1
      obtain ⟨b1, b2, b3, b4⟩ := hhd l o2 h2
      rw [hblk, a5] at e1
      have := hw.rows.ds l0 l o1 o2 g a2 b1 e1 (by unfold Blk at e2 ⊢; rw [b3]; exact e2)
      subst this
      rw [a3] at b4; cases b4
  cases e with
  | normal => exact hmain he
  | ret => exact hmain he
  | exit id => exact he.elim
end
end Go.Proofs.Ytmafbodblpgcjaa.AM
