/- Texts of the machine over data, folded. -/
import Derived.Test.YtodckioppgjbdaaGreatDoorKc5
import Derived.Test.YtodckioppgjbdaaGreatDoorKc8
import Derived.Test.YtodckioppgjbdaaGreatDoorKc7
import Derived.Test.YtodckioppgjbdaaGreatDoorKc6
import Derived.Conc.LoneCalls
import Derived.Conc.LoneSelect
set_option linter.unusedVariables false
set_option linter.unusedSimpArgs false
set_option maxRecDepth 100000
namespace Go.Proofs.YtodckioppgjbdaaGreatDoor.AM
open Go Go.RowKit
section
variable {P : Program} {Θ : Tab} {s : St} {ty : TypeId} {pos : String} {after : Array Edge} {g : Option (Nat × Bool)} {d : Option Tmp}
theorem aAb {a t t2 l : Nat} {ob : OB} {v : Value} {t' : Option Nat} {xs : List AV} (h1 : s.sl a = .optr l 0 [] 0) (ho : s.hp l = some ob) (hoe : yT ob.e ob.xs 0 = some (.o t' 0 (.mix xs))) (h2 : s.sl t2 = .v v) (hm : mapA (fun k => ([] : List Nat).getD k 0) (.mix xs) = .mix xs) (hwi : (AV.mix xs).within (fun k => Nat.blt k 0) = true) (hof : ofO (.mix xs) = some (.mix xs) := by rfl) (hk : ((Θ.look t).known && (Θ.look t).isAgg && Nat.beq (xB xs) (Θ.look t).size) = true := by rfl) (hop : ob.e.open_ = false := by rfl) :
 kE Θ [.cell a t, .tmp t2] ⟨.tup [.mix xs, .v v], []⟩ .ret s := by
 have hr : rvA s (.cell a t) = .mix xs := by
  simp only [rvA, h1, ho, hop, hoe, cond_false, hof]; rfl
 simp only [Bool.and_eq_true] at hk
 have c2 : aGj Θ s (.cell a t) := ⟨hk.1.1, by rw [hr]; exact hk.1.2.symm, by rw [hr]; exact Nat.eq_of_beq_eq_true hk.2, .inl ⟨l, ob, _, h1, ho, .inr ⟨hop, _, _, hoe, hof⟩⟩⟩
 exact ⟨trivial, [], by simp, trivial, ⟨c2, trivial, trivial⟩, ⟨_, rfl⟩, ⟨by rw [hr]; exact .inl ⟨hm.symm, hwi⟩, .inl ⟨h2, rfl⟩, trivial⟩⟩
theorem kQ {f : FuncId} {x : Operand} {ags : Array Operand} {ts : Array TypeId} {t : Nat} {args : List AV} {r : Value} (hac : AC P f args ⟨.v r, []⟩) (hx : s.ev x = .fn f [] []) (ha : (ags.toList.map fun x => s.dat (s.ev x)) = args) (hfl : (yF s ags.toList).isEmpty = true) (hw : (ags.toList.map s.ev).all uD = true) (hok : zD s (ags.toList.map s.ev) = true) (hc : vY ags.toList = true) :
 Sft P Θ ⟨some t, .call ⟨.value x, ags, ts⟩, ty, pos, after, g⟩ s (.v r) [] [] := by
 refine ⟨fun s' h1 h2 => ?_, fun l ob h => (by cases h), fun l hl => (by cases hl), fun l hl => (by simp [AV.names] at hl), fun l ⟨o, hl⟩ => (by cases hl), fun l ob ⟨o, hl⟩ ho => (by cases hl)⟩
 have hev : ∀ x ∈ ags.toList, s'.ev x = s.ev x := fun x hx => h1 x (by simp [Op.operands, Call.operands] at hx ⊢; exact .inr hx)
 have hmap : ags.toList.map s'.ev = ags.toList.map s.ev := List.map_congr_left hev
 have hxe : s'.ev x = .fn f [] [] := (h1 x (by simp [Op.operands, Call.operands])).trans hx
 refine ⟨⟨ren (t + 1) (.v r), vk (t + 1) []⟩, aEN hac hxe ?_ (.inl ?_) trivial ?_ hc, fun K hK => .done hK⟩
 · rw [← ha]
   simp only [List.nil_append, List.append_nil, List.map_map]
   refine List.map_congr_left fun x hx => ?_
   show s'.dat (s'.ev x) = _
   rw [hev x hx]
   exact jQ s s' _ (List.all_eq_true.1 hw _ (List.mem_map_of_mem hx))
 · simp only [List.nil_append, List.append_nil]
   unfold yF at hfl; rw [hmap]; exact hfl
 · simp only [List.nil_append, List.append_nil]
   rw [hmap, j5 s s' _ hw]; exact hok
theorem qi {c : Value} (hc : c.oneCell' = true) : Sft P Θ ⟨d, .assign (.const c), ty, pos, after, g⟩ s (.v c) [] [] := by
 refine ⟨fun s' h1 h2 => ⟨⟨.v c, none⟩, aCh hc, fun K hK => .done hK⟩, fun l ob h => by simp [xw] at h, fun l hl => (by cases hl), fun l hl => by simp [AV.names] at hl, fun l hl => (zZ hl).elim, fun l ob hl => (zZ hl).elim⟩
end
theorem qZ {x : ByteArray} (h : okN x = true) : 0 < x.size := by
 unfold okN Nm.nameOK at h
 have e : x.size = x.data.toList.length := by rw [Array.length_toList]; rfl
 rw [e]
 split at h
 · cases h
 · rename_i c cs hc
   rw [hc]; simp
attribute [local irreducible] xM xR xh y9 zF Pre ACG
theorem aDr {w : Wsh} : AC Tryz.prog 99 [uY w] ⟨.v (.string w.source), []⟩ := by
 change AC Tryz.prog 99 [.agg [.v (.int .i64 w.kind), .v (.string w.name), .v (.string w.source), .v (.string w.key), .lst 3 (w.edits.map xS)]] _
 refine qrf Tryz.func99 Tryz.ntmps99 Tryz.results99 ?_; conv => whnf
 repeat ((refine qz ?_; conv => whnf))
 exact xI rfl trivial
theorem aHJ {w : Wsh} : AC Tryz.prog 102 [uY w] ⟨.v (.string w.key), []⟩ := by
 change AC Tryz.prog 102 [.agg [.v (.int .i64 w.kind), .v (.string w.name), .v (.string w.source), .v (.string w.key), .lst 3 (w.edits.map xS)]] _
 refine qrf Tryz.func102 Tryz.ntmps102 Tryz.results102 ?_; conv => whnf
 repeat ((refine qz ?_; conv => whnf))
 exact xI rfl trivial
theorem aHK {w : Wsh} (hm : w.edits.length ≤ 4096) (hk : aBo w.edits) : AC Tryz.prog 104 [uY w] ⟨.v (.string (wK w.edits)), []⟩ := by
 have c1 := aBB hm hk
 change AC Tryz.prog 104 [.agg [.v (.int .i64 w.kind), .v (.string w.name), .v (.string w.source), .v (.string w.key), .lst 3 (w.edits.map xS)]] _
 refine qrf Tryz.func104 Tryz.ntmps104 Tryz.results104 ?_; conv => whnf
 repeat ((first | refine qz ?_ | refine qc (c1) ?_); conv => whnf)
 exact xI rfl trivial
theorem aAE : AC Tryz.prog 43 [.v (.string ⟨#[99, 114, 101, 97, 116, 101]⟩)] ⟨.tup [.mix [.fn 99 [] [], .fn 100 [] []], .v (.bool true)], []⟩ := by
 refine qrf Tryz.func43 Tryz.ntmps43 Tryz.results43 ?_; conv => whnf
 repeat ((first | refine qz ?_ | refine qst ?_ | refine qr (zQ rfl rfl rfl rfl rfl rfl) ?_ | refine qp (zh rfl rfl rfl rfl rfl rfl rfl rfl) ?_ | refine qdr ?_ | refine qr (jG rfl ⟨⟨_, _, rfl, rfl, rfl⟩, ⟨_, _, rfl, rfl, rfl⟩, trivial⟩ rfl) ?_ | refine qr (jJ rfl rfl) ?_ | refine qr (jI rfl rfl rfl rfl rfl rfl rfl (by rfl)) ?_ | refine qp (jH rfl rfl rfl rfl (by rfl) (by rfl)) ?_); conv => whnf)
 exact aAb rfl rfl rfl rfl rfl rfl
theorem aAD : AC Tryz.prog 43 [.v (.string ⟨#[99, 111, 109, 109, 105, 116]⟩)] ⟨.tup [.mix [.fn 104 [] [], .fn 105 [] []], .v (.bool true)], []⟩ := by
 refine qrf Tryz.func43 Tryz.ntmps43 Tryz.results43 ?_; conv => whnf
 repeat ((first | refine qz ?_ | refine qst ?_ | refine qr (zQ rfl rfl rfl rfl rfl rfl) ?_ | refine qp (zh rfl rfl rfl rfl rfl rfl rfl rfl) ?_ | refine qdr ?_ | refine qr (jG rfl ⟨⟨_, _, rfl, rfl, rfl⟩, ⟨_, _, rfl, rfl, rfl⟩, trivial⟩ rfl) ?_ | refine qr (jJ rfl rfl) ?_ | refine qr (jI rfl rfl rfl rfl rfl rfl rfl (by rfl)) ?_ | refine qp (jH rfl rfl rfl rfl (by rfl) (by rfl)) ?_); conv => whnf)
 exact aAb rfl rfl rfl rfl rfl rfl
theorem aAf : AC Tryz.prog 43 [.v (.string ⟨#[109, 101, 114, 103, 101]⟩)] ⟨.tup [.mix [.fn 99 [] [], .fn 100 [] []], .v (.bool true)], []⟩ := by
 refine qrf Tryz.func43 Tryz.ntmps43 Tryz.results43 ?_; conv => whnf
 repeat ((first | refine qz ?_ | refine qst ?_ | refine qr (zQ rfl rfl rfl rfl rfl rfl) ?_ | refine qp (zh rfl rfl rfl rfl rfl rfl rfl rfl) ?_ | refine qdr ?_ | refine qr (jG rfl ⟨⟨_, _, rfl, rfl, rfl⟩, ⟨_, _, rfl, rfl, rfl⟩, trivial⟩ rfl) ?_ | refine qr (jJ rfl rfl) ?_ | refine qr (jI rfl rfl rfl rfl rfl rfl rfl (by rfl)) ?_ | refine qp (jH rfl rfl rfl rfl (by rfl) (by rfl)) ?_); conv => whnf)
 exact aAb rfl rfl rfl rfl rfl rfl
theorem aBA : AC Tryz.prog 43 [.v (.string ⟨#[103, 101, 116]⟩)] ⟨.tup [.mix [.fn 102 [] [], .fn 103 [] []], .v (.bool true)], []⟩ := by
 refine qrf Tryz.func43 Tryz.ntmps43 Tryz.results43 ?_; conv => whnf
 repeat ((first | refine qz ?_ | refine qst ?_ | refine qr (zQ rfl rfl rfl rfl rfl rfl) ?_ | refine qp (zh rfl rfl rfl rfl rfl rfl rfl rfl) ?_ | refine qdr ?_ | refine qr (jG rfl ⟨⟨_, _, rfl, rfl, rfl⟩, ⟨_, _, rfl, rfl, rfl⟩, trivial⟩ rfl) ?_ | refine qr (jJ rfl rfl) ?_ | refine qr (jI rfl rfl rfl rfl rfl rfl rfl (by rfl)) ?_ | refine qp (jH rfl rfl rfl rfl (by rfl) (by rfl)) ?_); conv => whnf)
 exact aAb rfl rfl rfl rfl rfl rfl
theorem qU {m : List (ByteArray × AV)} {k q : ByteArray} {v : AV} (h : ¬ q = k) : zM (uK m k v) q = zM m q := by
 induction m with
 | nil => simp [uK, zM, h]
 | cons x m ih =>
  obtain ⟨a, y⟩ := x
  rw [uK]
  split
  · rename_i e; subst e; simp [zM, h]
  · simp only [zM, ih]
theorem aGx {a b c d t : ByteArray} {va vb vc vd : AV} (ha : ¬ t = a) (hb : ¬ t = b) (hc : ¬ t = c) (hd : ¬ t = d) : zM (uK (uK (uK (uK [] a va) b vb) c vc) d vd) t = none := by
 rw [qU hd, qU hc, qU hb, qU ha]; rfl
theorem jg {t : ByteArray} (h0 : ¬ t = ⟨#[99, 114, 101, 97, 116, 101]⟩) (h2 : ¬ t = ⟨#[99, 111, 109, 109, 105, 116]⟩) (h3 : ¬ t = ⟨#[109, 101, 114, 103, 101]⟩) (h4 : ¬ t = ⟨#[103, 101, 116]⟩) : AC Tryz.prog 43 [.v (.string t)] ⟨.tup [.agg [.v .nilFunc, .v .nilFunc], .v (.bool false)], []⟩ := by
 refine qrf Tryz.func43 Tryz.ntmps43 Tryz.results43 ?_; conv => whnf
 repeat ((first | refine qz ?_ | refine qst ?_ | refine qr (zQ rfl rfl rfl rfl rfl rfl) ?_ | refine qp (zh rfl rfl rfl rfl rfl rfl rfl rfl) ?_ | refine qdr ?_ | refine qr (jG rfl ⟨⟨_, _, rfl, rfl, rfl⟩, ⟨_, _, rfl, rfl, rfl⟩, trivial⟩ rfl) ?_ | refine qr (jJ rfl rfl) ?_ | refine qr (jI rfl rfl rfl rfl rfl rfl rfl (by rfl)) ?_ | refine qp (jH (y := .agg [.v .nilFunc, .v .nilFunc]) (f := false) rfl rfl rfl rfl (congrArg (fun o => Option.getD o (AV.agg [.v .nilFunc, .v .nilFunc])) (aGx h0 h2 h3 h4)) (congrArg Option.isSome (aGx h0 h2 h3 h4))) ?_); conv => whnf)
 exact aHc rfl rfl rfl rfl trivial rfl
set_option maxHeartbeats 4000000 in
theorem aHM {frm : Int} {nm key : ByteArray} {es : List Edt} (q1 : nm.size ≤ maxLen) (q2 : key.size ≤ maxLen) (q3 : es.length ≤ maxLen) (q4 : ∀ e ∈ es, e.key.size ≤ maxLen) (hn : okN nm = true) : AC Tryz.prog 96 [.agg [.v (.int .i64 1), .v (.int .i64 frm), .v (.string nm), .v (.string key), .lst 3 (es.map xS)]] ⟨.v (.bool (opB ⟨1, frm, nm, key, es⟩)), []⟩ := by
 have q3' := q3
 unfold maxLen at q3'
 refine qrf Tryz.func96 Tryz.ntmps96 Tryz.results96 ?_; conv => whnf
 repeat ((first | refine qc (xL q1 hn) ?_ | refine qz ?_); conv => whnf)
 (refine qdr ?_; conv => whnf)
 by_cases hf : 1 ≤ frm ∧ frm ≤ 60
 case neg =>
  rw [show opB _ = false from by simp [opB, hn, hf]]
  as_aux_lemma =>
   repeat ((first | refine qc (xL q1 hn) ?_ | refine qc (jZ hf) ?_ | refine qp (xA (yw (by assumption)) rfl rfl rfl) ?_ | refine qp (xA (y5 (by assumption)) rfl rfl rfl) ?_ | refine qp (xA (yo (by assumption)) rfl rfl rfl) ?_ | refine qp (xA (yj (by assumption)) rfl rfl rfl) ?_ | refine qz ?_ | refine qp (xA uJ rfl rfl rfl) ?_ | refine qp (xA zb rfl rfl rfl) ?_); conv => whnf)
   exact xI rfl trivial
 by_cases hk : key = eB
 case neg =>
  rw [show opB _ = false from by simp [opB, hn, hf, hk]]
  as_aux_lemma =>
   repeat ((first | refine qc (xL q1 hn) ?_ | refine qc (zN hf.1 hf.2) ?_ | refine qp (xA (yw (by assumption)) rfl rfl rfl) ?_ | refine qp (xA (y5 (by assumption)) rfl rfl rfl) ?_ | refine qp (xA (yo (by assumption)) rfl rfl rfl) ?_ | refine qp (xA (yj (by assumption)) rfl rfl rfl) ?_ | refine qz ?_ | refine qp (xA uJ rfl rfl rfl) ?_ | refine qp (xA zb rfl rfl rfl) ?_); conv => whnf)
   exact xI rfl trivial
 by_cases he : es.length = 0
 case neg =>
  rw [show opB _ = false from by simp [opB, hn, hf, hk, he]]
  as_aux_lemma =>
   repeat ((first | refine qc (xL q1 hn) ?_ | refine qc (zN hf.1 hf.2) ?_ | refine qp (xA (yw (by assumption)) rfl rfl rfl) ?_ | refine qp (xA (y5 (by assumption)) rfl rfl rfl) ?_ | refine qp (xA (yo (by assumption)) rfl rfl rfl) ?_ | refine qp (xA (yj (by assumption)) rfl rfl rfl) ?_ | refine qz ?_ | refine qp (xA uJ rfl rfl rfl) ?_ | refine qp (xA zb rfl rfl rfl) ?_); conv => whnf)
   exact xI rfl trivial
 rw [show opB _ = true from by simp [opB, hn, hf, hk, he]]
 as_aux_lemma =>
  repeat ((first | refine qc (xL q1 hn) ?_ | refine qc (zN hf.1 hf.2) ?_ | refine qp (xA (yw (by assumption)) rfl rfl rfl) ?_ | refine qp (xA (y5 (by assumption)) rfl rfl rfl) ?_ | refine qp (xA (yo (by assumption)) rfl rfl rfl) ?_ | refine qp (xA (yj (by assumption)) rfl rfl rfl) ?_ | refine qz ?_ | refine qp (xA uJ rfl rfl rfl) ?_ | refine qp (xA zb rfl rfl rfl) ?_); conv => whnf)
  exact xI rfl trivial
set_option maxHeartbeats 4000000 in
theorem aHP {frm : Int} {nm key : ByteArray} {es : List Edt} (q1 : nm.size ≤ maxLen) (q2 : key.size ≤ maxLen) (q3 : es.length ≤ maxLen) (q4 : ∀ e ∈ es, e.key.size ≤ maxLen) (hn : okN nm = true) : AC Tryz.prog 96 [.agg [.v (.int .i64 4), .v (.int .i64 frm), .v (.string nm), .v (.string key), .lst 3 (es.map xS)]] ⟨.v (.bool (opB ⟨4, frm, nm, key, es⟩)), []⟩ := by
 have q3' := q3
 unfold maxLen at q3'
 refine qrf Tryz.func96 Tryz.ntmps96 Tryz.results96 ?_; conv => whnf
 repeat ((first | refine qc (xL q1 hn) ?_ | refine qz ?_); conv => whnf)
 (refine qdr ?_; conv => whnf)
 by_cases hf : 1 ≤ frm ∧ frm ≤ 60
 case neg =>
  rw [show opB _ = false from by simp [opB, hn, hf]]
  as_aux_lemma =>
   repeat ((first | refine qc (xL q1 hn) ?_ | refine qc (jZ hf) ?_ | refine qp (xA (yw (by assumption)) rfl rfl rfl) ?_ | refine qp (xA (y5 (by assumption)) rfl rfl rfl) ?_ | refine qp (xA (yo (by assumption)) rfl rfl rfl) ?_ | refine qp (xA (yj (by assumption)) rfl rfl rfl) ?_ | refine qz ?_ | refine qp (xA uJ rfl rfl rfl) ?_ | refine qp (xA zb rfl rfl rfl) ?_); conv => whnf)
   exact xI rfl trivial
 by_cases hk : key = eB
 case neg =>
  rw [show opB _ = false from by simp [opB, hn, hf, hk]]
  as_aux_lemma =>
   repeat ((first | refine qc (xL q1 hn) ?_ | refine qc (zN hf.1 hf.2) ?_ | refine qp (xA (yw (by assumption)) rfl rfl rfl) ?_ | refine qp (xA (y5 (by assumption)) rfl rfl rfl) ?_ | refine qp (xA (yo (by assumption)) rfl rfl rfl) ?_ | refine qp (xA (yj (by assumption)) rfl rfl rfl) ?_ | refine qz ?_ | refine qp (xA uJ rfl rfl rfl) ?_ | refine qp (xA zb rfl rfl rfl) ?_); conv => whnf)
   exact xI rfl trivial
 by_cases he : es.length = 0
 case neg =>
  rw [show opB _ = false from by simp [opB, hn, hf, hk, he]]
  as_aux_lemma =>
   repeat ((first | refine qc (xL q1 hn) ?_ | refine qc (zN hf.1 hf.2) ?_ | refine qp (xA (yw (by assumption)) rfl rfl rfl) ?_ | refine qp (xA (y5 (by assumption)) rfl rfl rfl) ?_ | refine qp (xA (yo (by assumption)) rfl rfl rfl) ?_ | refine qp (xA (yj (by assumption)) rfl rfl rfl) ?_ | refine qz ?_ | refine qp (xA uJ rfl rfl rfl) ?_ | refine qp (xA zb rfl rfl rfl) ?_); conv => whnf)
   exact xI rfl trivial
 rw [show opB _ = true from by simp [opB, hn, hf, hk, he]]
 as_aux_lemma =>
  repeat ((first | refine qc (xL q1 hn) ?_ | refine qc (zN hf.1 hf.2) ?_ | refine qp (xA (yw (by assumption)) rfl rfl rfl) ?_ | refine qp (xA (y5 (by assumption)) rfl rfl rfl) ?_ | refine qp (xA (yo (by assumption)) rfl rfl rfl) ?_ | refine qp (xA (yj (by assumption)) rfl rfl rfl) ?_ | refine qz ?_ | refine qp (xA uJ rfl rfl rfl) ?_ | refine qp (xA zb rfl rfl rfl) ?_); conv => whnf)
  exact xI rfl trivial
set_option maxHeartbeats 4000000 in
theorem aHO {frm : Int} {nm key : ByteArray} {es : List Edt} (q1 : nm.size ≤ maxLen) (q2 : key.size ≤ maxLen) (q3 : es.length ≤ maxLen) (q4 : ∀ e ∈ es, e.key.size ≤ maxLen) (hn : okN nm = true) : AC Tryz.prog 96 [.agg [.v (.int .i64 3), .v (.int .i64 frm), .v (.string nm), .v (.string key), .lst 3 (es.map xS)]] ⟨.v (.bool (opB ⟨3, frm, nm, key, es⟩)), []⟩ := by
 have q3' := q3
 unfold maxLen at q3'
 refine qrf Tryz.func96 Tryz.ntmps96 Tryz.results96 ?_; conv => whnf
 repeat ((first | refine qc (xL q1 hn) ?_ | refine qz ?_); conv => whnf)
 (refine qdr ?_; conv => whnf)
 by_cases h0 : frm = 0
 case pos =>
  subst h0
  by_cases hk : key = eB
  case neg =>
   rw [show opB _ = false from by simp [opB, hn, hk]]
   as_aux_lemma =>
    repeat ((first | refine qc (xL q1 hn) ?_ | refine qp (xA (yw (by assumption)) rfl rfl rfl) ?_ | refine qp (xA (y5 (by assumption)) rfl rfl rfl) ?_ | refine qp (xA (yo (by assumption)) rfl rfl rfl) ?_ | refine qp (xA (yj (by assumption)) rfl rfl rfl) ?_ | refine qz ?_ | refine qp (xA uJ rfl rfl rfl) ?_ | refine qp (xA zb rfl rfl rfl) ?_); conv => whnf)
    exact xI rfl trivial
  cases he : xP es with
  | false =>
   rw [show opB _ = false from by simp [opB, hn, hk, he]]
   as_aux_lemma =>
    repeat ((first | refine qc (xL q1 hn) ?_ | refine qc (qE he q3 q4) ?_ | refine qp (xA (yw (by assumption)) rfl rfl rfl) ?_ | refine qp (xA (y5 (by assumption)) rfl rfl rfl) ?_ | refine qp (xA (yo (by assumption)) rfl rfl rfl) ?_ | refine qp (xA (yj (by assumption)) rfl rfl rfl) ?_ | refine qz ?_ | refine qp (xA uJ rfl rfl rfl) ?_ | refine qp (xA zb rfl rfl rfl) ?_); conv => whnf)
    exact xI rfl trivial
  | true =>
   rw [show opB _ = true from by simp [opB, hn, hk, he]]
   as_aux_lemma =>
    repeat ((first | refine qc (xL q1 hn) ?_ | refine qc (qE he q3 q4) ?_ | refine qp (xA (yw (by assumption)) rfl rfl rfl) ?_ | refine qp (xA (y5 (by assumption)) rfl rfl rfl) ?_ | refine qp (xA (yo (by assumption)) rfl rfl rfl) ?_ | refine qp (xA (yj (by assumption)) rfl rfl rfl) ?_ | refine qz ?_ | refine qp (xA uJ rfl rfl rfl) ?_ | refine qp (xA zb rfl rfl rfl) ?_); conv => whnf)
    exact xI rfl trivial
 by_cases hf : 1 ≤ frm ∧ frm ≤ 60
 case neg =>
  have hf2 : ¬ (0 ≤ frm ∧ frm ≤ 60) := by omega
  rw [show opB _ = false from by simp [opB, hn, hf2]]
  as_aux_lemma =>
   repeat ((first | refine qc (xL q1 hn) ?_ | refine qc (jZ hf) ?_ | refine qp (xA (yw (by assumption)) rfl rfl rfl) ?_ | refine qp (xA (y5 (by assumption)) rfl rfl rfl) ?_ | refine qp (xA (yo (by assumption)) rfl rfl rfl) ?_ | refine qp (xA (yj (by assumption)) rfl rfl rfl) ?_ | refine qz ?_ | refine qp (xA uJ rfl rfl rfl) ?_ | refine qp (xA zb rfl rfl rfl) ?_); conv => whnf)
   exact xI rfl trivial
 have hf2 : 0 ≤ frm ∧ frm ≤ 60 := by omega
 by_cases hk : key = eB
 case neg =>
  rw [show opB _ = false from by simp [opB, hn, hf2, hk]]
  as_aux_lemma =>
   repeat ((first | refine qc (xL q1 hn) ?_ | refine qc (zN hf.1 hf.2) ?_ | refine qp (xA (yw (by assumption)) rfl rfl rfl) ?_ | refine qp (xA (y5 (by assumption)) rfl rfl rfl) ?_ | refine qp (xA (yo (by assumption)) rfl rfl rfl) ?_ | refine qp (xA (yj (by assumption)) rfl rfl rfl) ?_ | refine qz ?_ | refine qp (xA uJ rfl rfl rfl) ?_ | refine qp (xA zb rfl rfl rfl) ?_); conv => whnf)
   exact xI rfl trivial
 cases he : xP es with
 | false =>
  rw [show opB _ = false from by simp [opB, hn, hf2, hk, he]]
  as_aux_lemma =>
   repeat ((first | refine qc (xL q1 hn) ?_ | refine qc (zN hf.1 hf.2) ?_ | refine qc (qE he q3 q4) ?_ | refine qp (xA (yw (by assumption)) rfl rfl rfl) ?_ | refine qp (xA (y5 (by assumption)) rfl rfl rfl) ?_ | refine qp (xA (yo (by assumption)) rfl rfl rfl) ?_ | refine qp (xA (yj (by assumption)) rfl rfl rfl) ?_ | refine qz ?_ | refine qp (xA uJ rfl rfl rfl) ?_ | refine qp (xA zb rfl rfl rfl) ?_); conv => whnf)
   exact xI rfl trivial
 | true =>
  rw [show opB _ = true from by simp [opB, hn, hf2, hk, he]]
  as_aux_lemma =>
   repeat ((first | refine qc (xL q1 hn) ?_ | refine qc (zN hf.1 hf.2) ?_ | refine qc (qE he q3 q4) ?_ | refine qp (xA (yw (by assumption)) rfl rfl rfl) ?_ | refine qp (xA (y5 (by assumption)) rfl rfl rfl) ?_ | refine qp (xA (yo (by assumption)) rfl rfl rfl) ?_ | refine qp (xA (yj (by assumption)) rfl rfl rfl) ?_ | refine qz ?_ | refine qp (xA uJ rfl rfl rfl) ?_ | refine qp (xA zb rfl rfl rfl) ?_); conv => whnf)
   exact xI rfl trivial
set_option maxHeartbeats 4000000 in
theorem aHQ {frm : Int} {nm key : ByteArray} {es : List Edt} (q1 : nm.size ≤ maxLen) (q2 : key.size ≤ maxLen) (q3 : es.length ≤ maxLen) (q4 : ∀ e ∈ es, e.key.size ≤ maxLen) (hn : okN nm = true) : AC Tryz.prog 96 [.agg [.v (.int .i64 5), .v (.int .i64 frm), .v (.string nm), .v (.string key), .lst 3 (es.map xS)]] ⟨.v (.bool (opB ⟨5, frm, nm, key, es⟩)), []⟩ := by
 have q3' := q3
 unfold maxLen at q3'
 by_cases h0 : frm = 0
 case neg =>
  rw [show opB _ = false from by simp [opB, hn, h0]]
  as_aux_lemma =>
   refine qO Tryz.func96 Tryz.ntmps96 Tryz.results96 ?_
   repeat (first | refine qla ?_ | refine qC (xL q1 hn) ?_ | refine qlb ?_ | refine qx ?_)
   exact qe
 cases hk : okN key with
 | false =>
  rw [show opB _ = false from by simp [opB, hn, h0, hk]]
  as_aux_lemma =>
   refine qO Tryz.func96 Tryz.ntmps96 Tryz.results96 ?_
   repeat (first | refine qla ?_ | refine qC (xL q1 hn) ?_ | refine qC (xL q2 hk) ?_ | refine qlb ?_ | refine qx ?_)
   exact qe
 | true =>
  by_cases he : es.length = 0
  case neg =>
   rw [show opB _ = false from by simp [opB, hn, h0, hk, he]]
   as_aux_lemma =>
    refine qO Tryz.func96 Tryz.ntmps96 Tryz.results96 ?_
    repeat (first | refine qla ?_ | refine qC (xL q1 hn) ?_ | refine qC (xL q2 hk) ?_ | refine qlb ?_ | refine qx ?_)
    exact qe
  rw [show opB _ = true from by simp [opB, hn, h0, hk, he]]
  as_aux_lemma =>
   refine qO Tryz.func96 Tryz.ntmps96 Tryz.results96 ?_
   repeat (first | refine qla ?_ | refine qC (xL q1 hn) ?_ | refine qC (xL q2 hk) ?_ | refine qlb ?_ | refine qx ?_)
   exact qe
set_option maxHeartbeats 4000000 in
theorem aHN {frm : Int} {nm key : ByteArray} {es : List Edt} (q1 : nm.size ≤ maxLen) (q2 : key.size ≤ maxLen) (q3 : es.length ≤ maxLen) (q4 : ∀ e ∈ es, e.key.size ≤ maxLen) (hn : okN nm = true) : AC Tryz.prog 96 [.agg [.v (.int .i64 2), .v (.int .i64 frm), .v (.string nm), .v (.string key), .lst 3 (es.map xS)]] ⟨.v (.bool (opB ⟨2, frm, nm, key, es⟩)), []⟩ := by
 have q3' := q3
 unfold maxLen at q3'
 by_cases h0 : frm = 0
 case neg =>
  rw [show opB _ = false from by simp [opB, hn, h0]]
  as_aux_lemma =>
   refine qO Tryz.func96 Tryz.ntmps96 Tryz.results96 ?_
   repeat (first | refine qla ?_ | refine qC (xL q1 hn) ?_ | refine qlb ?_ | refine qx ?_)
   exact qe
 by_cases hk : key = eB
 case neg =>
  rw [show opB _ = false from by simp [opB, hn, h0, hk]]
  as_aux_lemma =>
   refine qO Tryz.func96 Tryz.ntmps96 Tryz.results96 ?_
   repeat (first | refine qla ?_ | refine qC (xL q1 hn) ?_ | refine qlb ?_ | refine qx ?_)
   exact qe
 by_cases he : es.length = 0
 case neg =>
  rw [show opB _ = false from by simp [opB, hn, h0, hk, he]]
  as_aux_lemma =>
   refine qO Tryz.func96 Tryz.ntmps96 Tryz.results96 ?_
   repeat (first | refine qla ?_ | refine qC (xL q1 hn) ?_ | refine qlb ?_ | refine qx ?_)
   exact qe
 rw [show opB _ = true from by simp [opB, hn, h0, hk, he]]
 as_aux_lemma =>
  refine qO Tryz.func96 Tryz.ntmps96 Tryz.results96 ?_
  repeat (first | refine qla ?_ | refine qC (xL q1 hn) ?_ | refine qlb ?_ | refine qx ?_)
  exact qe
set_option maxHeartbeats 4000000 in
theorem aHR {frm : Int} {nm key : ByteArray} {es : List Edt} (q1 : nm.size ≤ maxLen) (q2 : key.size ≤ maxLen) (q3 : es.length ≤ maxLen) (q4 : ∀ e ∈ es, e.key.size ≤ maxLen) (hn : okN nm = true) : AC Tryz.prog 96 [.agg [.v (.int .i64 6), .v (.int .i64 frm), .v (.string nm), .v (.string key), .lst 3 (es.map xS)]] ⟨.v (.bool (opB ⟨6, frm, nm, key, es⟩)), []⟩ := by
 have q3' := q3
 unfold maxLen at q3'
 by_cases h0 : frm = 0
 case neg =>
  rw [show opB _ = false from by simp [opB, hn, h0]]
  as_aux_lemma =>
   refine qO Tryz.func96 Tryz.ntmps96 Tryz.results96 ?_
   repeat (first | refine qla ?_ | refine qC (xL q1 hn) ?_ | refine qlb ?_ | refine qx ?_)
   exact qe
 by_cases hk : key = eB
 case neg =>
  rw [show opB _ = false from by simp [opB, hn, h0, hk]]
  as_aux_lemma =>
   refine qO Tryz.func96 Tryz.ntmps96 Tryz.results96 ?_
   repeat (first | refine qla ?_ | refine qC (xL q1 hn) ?_ | refine qlb ?_ | refine qx ?_)
   exact qe
 by_cases he : es.length = 0
 case neg =>
  rw [show opB _ = false from by simp [opB, hn, h0, hk, he]]
  as_aux_lemma =>
   refine qO Tryz.func96 Tryz.ntmps96 Tryz.results96 ?_
   repeat (first | refine qla ?_ | refine qC (xL q1 hn) ?_ | refine qlb ?_ | refine qx ?_)
   exact qe
 rw [show opB _ = true from by simp [opB, hn, h0, hk, he]]
 as_aux_lemma =>
  refine qO Tryz.func96 Tryz.ntmps96 Tryz.results96 ?_
  repeat (first | refine qla ?_ | refine qC (xL q1 hn) ?_ | refine qlb ?_ | refine qx ?_)
  exact qe
set_option maxHeartbeats 4000000 in
theorem aCl {o : Opr} (ho : o.ok maxLen) : AC Tryz.prog 96 [aGb o] ⟨.v (.bool (opB o)), []⟩ := by
 obtain ⟨kind, frm, nm, key, es⟩ := o
 obtain ⟨q1, q2, q3, q4⟩ := ho
 simp only at q1 q2 q3 q4
 have q3' := q3
 unfold maxLen at q3'
 show AC Tryz.prog 96 [.agg [.v (.int .i64 kind), .v (.int .i64 frm), .v (.string nm), .v (.string key), .lst 3 (es.map xS)]] _
 cases hn : okN nm with
 | false =>
  rw [show opB _ = false from by simp [opB, hn]]
  as_aux_lemma =>
   refine qO Tryz.func96 Tryz.ntmps96 Tryz.results96 ?_
   repeat (first | refine qla ?_ | refine qC (xL q1 hn) ?_ | refine qlb ?_ | refine qx ?_)
   exact qe
 | true =>
 by_cases k1 : kind = 1
 case pos =>
  subst k1
  exact aHM q1 q2 q3 q4 hn
 by_cases k2 : kind = 2
 case pos =>
  subst k2
  exact aHN q1 q2 q3 q4 hn
 by_cases k3 : kind = 3
 case pos =>
  subst k3
  exact aHO q1 q2 q3 q4 hn
 by_cases k4 : kind = 4
 case pos =>
  subst k4
  exact aHP q1 q2 q3 q4 hn
 by_cases k5 : kind = 5
 case pos =>
  subst k5
  exact aHQ q1 q2 q3 q4 hn
 by_cases k6 : kind = 6
 case pos =>
  subst k6
  exact aHR q1 q2 q3 q4 hn
 rw [show opB _ = false from by simp [opB, hn, k1, k2, k3, k4, k5, k6]]
 as_aux_lemma =>
  refine qO Tryz.func96 Tryz.ntmps96 Tryz.results96 ?_
  repeat (first | refine qla ?_ | refine qC (xL q1 hn) ?_ | refine qlb ?_ | refine qx ?_)
  exact qe
end Go.Proofs.YtodckioppgjbdaaGreatDoor.AM
namespace Go.Proofs.YtodckioppgjbdaaGreatDoor.AM
open Go Go.RowKit
def szH (o : Wsh) (l : Int) : Int := if l - o.name.size < 0 then -1 else if l - o.name.size - o.source.size < 0 then -1 else if l - o.name.size - o.source.size - o.key.size < 0 then -1 else if szL xSz o.edits (l - o.name.size - o.source.size - o.key.size) < 0 then -1 else szL xSz o.edits (l - o.name.size - o.source.size - o.key.size)
def aG2 (k : Int) : Bool := decide (k = 1 ∨ k = 4)
def xQ (w : Wsh) : Bool := if w.kind = 1 ∨ w.kind = 4 then okN w.source && opB ⟨w.kind, 1, w.name, w.key, w.edits⟩ else decide (w.source = eB) && opB ⟨w.kind, 0, w.name, w.key, w.edits⟩
theorem aI5 {o : Wsh} {l : Int} (h : 0 ≤ szH o l) (h1 : l ≤ 1048576) : szH o l ≤ l ∧ o.edits.length ≤ 1048576 := by
 unfold szH at h ⊢
 split at h
 · omega
 split at h
 · omega
 split at h
 · omega
 split at h
 · omega
 · rename_i a b c d
   rw [if_neg a, if_neg b, if_neg c, if_neg d]
   obtain ⟨k1, l1, _⟩ := aI6 h
   omega
attribute [local irreducible] xM xR xh y9 zF Pre ACG
theorem aFR {o : Wsh} {l : Int} (ho : o.ok maxLen) (h0 : 0 ≤ l) (h1 : l ≤ 1048576) : AC Tryz.prog 7 [uY o, .v (.int .i64 l)] ⟨.v (.int .i64 (szH o l)), []⟩ := by
 obtain ⟨q1, q2, q3, q4, q5⟩ := ho
 have q1' := q1
 have q2' := q2
 have q3' := q3
 unfold maxLen at q1' q2' q3'
 unfold szH
 by_cases h_0 : l - o.name.size < 0
 · rw [if_pos h_0]
   refine qrf Tryz.func7 Tryz.ntmps7 Tryz.results7 ?_; conv => whnf
   repeat ((first | refine qz ?_ | refine qst ?_); conv => whnf)
   exact xI rfl trivial
 rw [if_neg h_0]
 by_cases h_1 : l - o.name.size - o.source.size < 0
 · rw [if_pos h_1]
   refine qrf Tryz.func7 Tryz.ntmps7 Tryz.results7 ?_; conv => whnf
   repeat ((first | refine qz ?_ | refine qst ?_); conv => whnf)
   exact xI rfl trivial
 rw [if_neg h_1]
 by_cases h_2 : l - o.name.size - o.source.size - o.key.size < 0
 · rw [if_pos h_2]
   refine qrf Tryz.func7 Tryz.ntmps7 Tryz.results7 ?_; conv => whnf
   repeat ((first | refine qz ?_ | refine qst ?_); conv => whnf)
   exact xI rfl trivial
 rw [if_neg h_2]
 have hac := aE8 (l := l - o.name.size - o.source.size - o.key.size) q4 q5 (by omega) (by omega)
 by_cases hn : szL xSz o.edits (l - o.name.size - o.source.size - o.key.size) < 0
 · rw [if_pos hn]
   refine qrf Tryz.func7 Tryz.ntmps7 Tryz.results7 ?_; conv => whnf
   repeat ((first | refine qz ?_ | refine qc (hac) ?_ | refine qst ?_); conv => whnf)
   exact xI rfl trivial
 · rw [if_neg hn]
   refine qrf Tryz.func7 Tryz.ntmps7 Tryz.results7 ?_; conv => whnf
   repeat ((first | refine qz ?_ | refine qc (hac) ?_ | refine qst ?_); conv => whnf)
   exact xI rfl trivial
theorem aFS {o : Wsh} (hm : o.edits.length ≤ 1048576) : AC Tryz.prog 9 [uY o] ⟨uY o, []⟩ := by
 refine qrf Tryz.func9 Tryz.ntmps9 Tryz.results9 ?_; conv => whnf
 repeat (first | (refine qz ?_; conv => whnf) | (refine qc (aE9 hm) ?_; conv => whnf) | (refine qr (aFs rfl rfl rfl rfl rfl rfl rfl rfl) ?_; conv => whnf) | (refine qr (aAv rfl rfl rfl rfl rfl (by conv => lhs; whnf) rfl) ?_; conv => whnf))
 exact aER (x := uY o) rfl rfl rfl rfl trivial
theorem aFK {o : Wsh} (hm : o.edits.length ≤ maxLen) : AC Tryz.prog 11 [uY o, uY o] ⟨.v (.bool true), []⟩ := by
 refine qrf Tryz.func11 Tryz.ntmps11 Tryz.results11 ?_; conv => whnf
 repeat ((first | refine qp (xA (y5 rfl) rfl rfl rfl) ?_ | refine qp (xA (aBH rfl) rfl rfl rfl) ?_ | refine qz ?_ | refine qc (aE4 hm) ?_); conv => whnf)
 exact xI rfl trivial
theorem aHL {k : Int} : AC Tryz.prog 95 [.v (.int .i64 k)] ⟨.v (.bool (aG2 k)), []⟩ := by
 unfold aG2
 by_cases h1 : k = 1
 · rw [decide_eq_true (by omega : k = 1 ∨ k = 4)]
   refine qO Tryz.func95 Tryz.ntmps95 Tryz.results95 ?_
   repeat (first | refine qy ?_)
   exact qe
 by_cases h4 : k = 4
 · rw [decide_eq_true (by omega : k = 1 ∨ k = 4)]
   refine qO Tryz.func95 Tryz.ntmps95 Tryz.results95 ?_
   repeat (first | refine qy ?_)
   exact qe
 rw [decide_eq_false (by omega : ¬ (k = 1 ∨ k = 4))]
 refine qO Tryz.func95 Tryz.ntmps95 Tryz.results95 ?_
 repeat (first | refine qy ?_)
 exact qe
theorem aDv {o : Wsh} {f : Int} : AC Tryz.prog 97 [uY o, .v (.int .i64 f)] ⟨aGb ⟨o.kind, f, o.name, o.key, o.edits⟩, []⟩ := by
 refine qrf Tryz.func97 Tryz.ntmps97 Tryz.results97 ?_; conv => whnf
 repeat ((first | refine qz ?_ | refine qst ?_); conv => whnf)
 exact aER (x := aGb ⟨o.kind, f, o.name, o.key, o.edits⟩) rfl rfl rfl rfl trivial
theorem aE5 {o : Wsh} (ho : o.ok maxLen) : AC Tryz.prog 42 [uY o] ⟨.v (.bool (xQ o)), []⟩ := by
 obtain ⟨q1, q2, q3, q4, q5⟩ := ho
 have hs := aHL (k := o.kind)
 have o0 := aDv (o := o) (f := 0)
 have o1 := aDv (o := o) (f := 1)
 have b0 := aCl (o := ⟨o.kind, 0, o.name, o.key, o.edits⟩) ⟨q1, q3, q4, q5⟩
 have b1 := aCl (o := ⟨o.kind, 1, o.name, o.key, o.edits⟩) ⟨q1, q3, q4, q5⟩
 unfold aG2 at hs
 unfold xQ
 by_cases hk : o.kind = 1 ∨ o.kind = 4
 · rw [if_pos hk]
   rw [decide_eq_true hk] at hs
   cases hn : okN o.source with
   | false =>
    rw [Bool.false_and]
    refine qrf Tryz.func42 Tryz.ntmps42 Tryz.results42 ?_; conv => whnf
    repeat ((first | refine qz ?_ | refine qst ?_ | refine qc (hs) ?_ | refine qc (xL q2 hn) ?_); conv => whnf)
    exact xI rfl trivial
   | true =>
    rw [Bool.true_and]
    refine qrf Tryz.func42 Tryz.ntmps42 Tryz.results42 ?_; conv => whnf
    repeat ((first | refine qz ?_ | refine qst ?_ | refine qc (hs) ?_ | refine qc (xL q2 hn) ?_ | refine qc (o1) ?_ | refine qc (b1) ?_); conv => whnf)
    exact xI rfl trivial
 · rw [if_neg hk]
   rw [decide_eq_false hk] at hs
   by_cases hs0 : o.source = eB
   · rw [decide_eq_true hs0, Bool.true_and]
     refine qrf Tryz.func42 Tryz.ntmps42 Tryz.results42 ?_; conv => whnf
     repeat ((first | refine qp (xA (yo hs0) rfl rfl rfl) ?_ | refine qz ?_ | refine qst ?_ | refine qc (hs) ?_ | refine qc (o0) ?_ | refine qc (b0) ?_); conv => whnf)
     exact xI rfl trivial
   · rw [decide_eq_false hs0, Bool.false_and]
     refine qrf Tryz.func42 Tryz.ntmps42 Tryz.results42 ?_; conv => whnf
     repeat ((first | refine qp (xA (yj hs0) rfl rfl rfl) ?_ | refine qz ?_ | refine qst ?_ | refine qc (hs) ?_); conv => whnf)
     exact xI rfl trivial
set_option maxHeartbeats 4000000 in
theorem aFL {nm src key : ByteArray} {es : List Edt} (q1 : nm.size ≤ maxLen) (q2 : src.size ≤ maxLen) (q3 : key.size ≤ maxLen) (q4 : es.length ≤ maxLen) (q5 : ∀ e ∈ es, e.key.size ≤ maxLen) (hn : okN nm = true) (hes : xP es = true) : AC Tryz.prog 39 [.agg [.v (.int .i64 1), .v (.string nm), .v (.string src), .v (.string key), .lst 3 (es.map xS)]] ⟨.v (.bool (xQ ⟨1, nm, src, key, es⟩)), []⟩ := by
 have q4' := q4
 unfold maxLen at q4'
 by_cases he : es.length = 0
 case neg =>
  rw [show xQ _ = false from by simp [xQ, opB, hn, he]]
  as_aux_lemma =>
   refine qO Tryz.func39 Tryz.ntmps39 Tryz.results39 ?_
   repeat (first | refine qla ?_ | refine qC (xK q1 hn) ?_ | refine qC (yO (by omega : (1 : Int) ≤ 1) (by omega : (1 : Int) ≤ 6)) ?_ | refine qC (yH hes q4 q5) ?_ | refine qlb ?_ | refine qx ?_)
   exact qe
 cases hs : okN src with
 | false =>
  rw [show xQ _ = false from by simp [xQ, opB, hn, hs]]
  as_aux_lemma =>
   refine qO Tryz.func39 Tryz.ntmps39 Tryz.results39 ?_
   repeat (first | refine qla ?_ | refine qC (xK q1 hn) ?_ | refine qC (yO (by omega : (1 : Int) ≤ 1) (by omega : (1 : Int) ≤ 6)) ?_ | refine qC (yH hes q4 q5) ?_ | refine qC (xK q2 hs) ?_ | refine qlb ?_ | refine qx ?_)
   exact qe
 | true =>
  by_cases hk : key = eB
  case neg =>
   rw [show xQ _ = false from by simp [xQ, opB, hn, hs, hk]]
   as_aux_lemma =>
    refine qO Tryz.func39 Tryz.ntmps39 Tryz.results39 ?_
    repeat (first | refine qla ?_ | refine qC (xK q1 hn) ?_ | refine qC (yO (by omega : (1 : Int) ≤ 1) (by omega : (1 : Int) ≤ 6)) ?_ | refine qC (yH hes q4 q5) ?_ | refine qC (xK q2 hs) ?_ | refine qlb ?_ | refine qx ?_)
    exact qe
  rw [show xQ _ = true from by simp [xQ, opB, hn, hs, hk, he]]
  as_aux_lemma =>
   refine qO Tryz.func39 Tryz.ntmps39 Tryz.results39 ?_
   repeat (first | refine qla ?_ | refine qC (xK q1 hn) ?_ | refine qC (yO (by omega : (1 : Int) ≤ 1) (by omega : (1 : Int) ≤ 6)) ?_ | refine qC (yH hes q4 q5) ?_ | refine qC (xK q2 hs) ?_ | refine qlb ?_ | refine qx ?_)
   exact qe
set_option maxHeartbeats 4000000 in
theorem aFO {nm src key : ByteArray} {es : List Edt} (q1 : nm.size ≤ maxLen) (q2 : src.size ≤ maxLen) (q3 : key.size ≤ maxLen) (q4 : es.length ≤ maxLen) (q5 : ∀ e ∈ es, e.key.size ≤ maxLen) (hn : okN nm = true) (hes : xP es = true) : AC Tryz.prog 39 [.agg [.v (.int .i64 4), .v (.string nm), .v (.string src), .v (.string key), .lst 3 (es.map xS)]] ⟨.v (.bool (xQ ⟨4, nm, src, key, es⟩)), []⟩ := by
 have q4' := q4
 unfold maxLen at q4'
 by_cases he : es.length = 0
 case neg =>
  rw [show xQ _ = false from by simp [xQ, opB, hn, he]]
  as_aux_lemma =>
   refine qO Tryz.func39 Tryz.ntmps39 Tryz.results39 ?_
   repeat (first | refine qla ?_ | refine qC (xK q1 hn) ?_ | refine qC (yO (by omega : (1 : Int) ≤ 4) (by omega : (4 : Int) ≤ 6)) ?_ | refine qC (yH hes q4 q5) ?_ | refine qlb ?_ | refine qx ?_)
   exact qe
 cases hs : okN src with
 | false =>
  rw [show xQ _ = false from by simp [xQ, opB, hn, hs]]
  as_aux_lemma =>
   refine qO Tryz.func39 Tryz.ntmps39 Tryz.results39 ?_
   repeat (first | refine qla ?_ | refine qC (xK q1 hn) ?_ | refine qC (yO (by omega : (1 : Int) ≤ 4) (by omega : (4 : Int) ≤ 6)) ?_ | refine qC (yH hes q4 q5) ?_ | refine qC (xK q2 hs) ?_ | refine qlb ?_ | refine qx ?_)
   exact qe
 | true =>
  by_cases hk : key = eB
  case neg =>
   rw [show xQ _ = false from by simp [xQ, opB, hn, hs, hk]]
   as_aux_lemma =>
    refine qO Tryz.func39 Tryz.ntmps39 Tryz.results39 ?_
    repeat (first | refine qla ?_ | refine qC (xK q1 hn) ?_ | refine qC (yO (by omega : (1 : Int) ≤ 4) (by omega : (4 : Int) ≤ 6)) ?_ | refine qC (yH hes q4 q5) ?_ | refine qC (xK q2 hs) ?_ | refine qlb ?_ | refine qx ?_)
    exact qe
  rw [show xQ _ = true from by simp [xQ, opB, hn, hs, hk, he]]
  as_aux_lemma =>
   refine qO Tryz.func39 Tryz.ntmps39 Tryz.results39 ?_
   repeat (first | refine qla ?_ | refine qC (xK q1 hn) ?_ | refine qC (yO (by omega : (1 : Int) ≤ 4) (by omega : (4 : Int) ≤ 6)) ?_ | refine qC (yH hes q4 q5) ?_ | refine qC (xK q2 hs) ?_ | refine qlb ?_ | refine qx ?_)
   exact qe
set_option maxHeartbeats 4000000 in
theorem aFM {nm src key : ByteArray} {es : List Edt} (q1 : nm.size ≤ maxLen) (q2 : src.size ≤ maxLen) (q3 : key.size ≤ maxLen) (q4 : es.length ≤ maxLen) (q5 : ∀ e ∈ es, e.key.size ≤ maxLen) (hn : okN nm = true) (hes : xP es = true) : AC Tryz.prog 39 [.agg [.v (.int .i64 2), .v (.string nm), .v (.string src), .v (.string key), .lst 3 (es.map xS)]] ⟨.v (.bool (xQ ⟨2, nm, src, key, es⟩)), []⟩ := by
 have q4' := q4
 unfold maxLen at q4'
 by_cases he : es.length = 0
 case neg =>
  rw [show xQ _ = false from by simp [xQ, opB, hn, he]]
  as_aux_lemma =>
   refine qO Tryz.func39 Tryz.ntmps39 Tryz.results39 ?_
   repeat (first | refine qla ?_ | refine qC (xK q1 hn) ?_ | refine qC (yO (by omega : (1 : Int) ≤ 2) (by omega : (2 : Int) ≤ 6)) ?_ | refine qC (yH hes q4 q5) ?_ | refine qlb ?_ | refine qx ?_)
   exact qe
 by_cases hs : src = eB
 case neg =>
  rw [show xQ _ = false from by simp [xQ, opB, hn, hs]]
  as_aux_lemma =>
   refine qO Tryz.func39 Tryz.ntmps39 Tryz.results39 ?_
   repeat (first | refine qla ?_ | refine qC (xK q1 hn) ?_ | refine qC (yO (by omega : (1 : Int) ≤ 2) (by omega : (2 : Int) ≤ 6)) ?_ | refine qC (yH hes q4 q5) ?_ | refine qlb ?_ | refine qx ?_)
   exact qe
 by_cases hk : key = eB
 case neg =>
  rw [show xQ _ = false from by simp [xQ, opB, hn, hs, hk]]
  as_aux_lemma =>
   refine qO Tryz.func39 Tryz.ntmps39 Tryz.results39 ?_
   repeat (first | refine qla ?_ | refine qC (xK q1 hn) ?_ | refine qC (yO (by omega : (1 : Int) ≤ 2) (by omega : (2 : Int) ≤ 6)) ?_ | refine qC (yH hes q4 q5) ?_ | refine qlb ?_ | refine qx ?_)
   exact qe
 rw [show xQ _ = true from by simp [xQ, opB, hn, hs, hk, he]]
 as_aux_lemma =>
  refine qO Tryz.func39 Tryz.ntmps39 Tryz.results39 ?_
  repeat (first | refine qla ?_ | refine qC (xK q1 hn) ?_ | refine qC (yO (by omega : (1 : Int) ≤ 2) (by omega : (2 : Int) ≤ 6)) ?_ | refine qC (yH hes q4 q5) ?_ | refine qlb ?_ | refine qx ?_)
  exact qe
set_option maxHeartbeats 4000000 in
theorem aFQ {nm src key : ByteArray} {es : List Edt} (q1 : nm.size ≤ maxLen) (q2 : src.size ≤ maxLen) (q3 : key.size ≤ maxLen) (q4 : es.length ≤ maxLen) (q5 : ∀ e ∈ es, e.key.size ≤ maxLen) (hn : okN nm = true) (hes : xP es = true) : AC Tryz.prog 39 [.agg [.v (.int .i64 6), .v (.string nm), .v (.string src), .v (.string key), .lst 3 (es.map xS)]] ⟨.v (.bool (xQ ⟨6, nm, src, key, es⟩)), []⟩ := by
 have q4' := q4
 unfold maxLen at q4'
 by_cases he : es.length = 0
 case neg =>
  rw [show xQ _ = false from by simp [xQ, opB, hn, he]]
  as_aux_lemma =>
   refine qO Tryz.func39 Tryz.ntmps39 Tryz.results39 ?_
   repeat (first | refine qla ?_ | refine qC (xK q1 hn) ?_ | refine qC (yO (by omega : (1 : Int) ≤ 6) (by omega : (6 : Int) ≤ 6)) ?_ | refine qC (yH hes q4 q5) ?_ | refine qlb ?_ | refine qx ?_)
   exact qe
 by_cases hs : src = eB
 case neg =>
  rw [show xQ _ = false from by simp [xQ, opB, hn, hs]]
  as_aux_lemma =>
   refine qO Tryz.func39 Tryz.ntmps39 Tryz.results39 ?_
   repeat (first | refine qla ?_ | refine qC (xK q1 hn) ?_ | refine qC (yO (by omega : (1 : Int) ≤ 6) (by omega : (6 : Int) ≤ 6)) ?_ | refine qC (yH hes q4 q5) ?_ | refine qlb ?_ | refine qx ?_)
   exact qe
 by_cases hk : key = eB
 case neg =>
  rw [show xQ _ = false from by simp [xQ, opB, hn, hs, hk]]
  as_aux_lemma =>
   refine qO Tryz.func39 Tryz.ntmps39 Tryz.results39 ?_
   repeat (first | refine qla ?_ | refine qC (xK q1 hn) ?_ | refine qC (yO (by omega : (1 : Int) ≤ 6) (by omega : (6 : Int) ≤ 6)) ?_ | refine qC (yH hes q4 q5) ?_ | refine qlb ?_ | refine qx ?_)
   exact qe
 rw [show xQ _ = true from by simp [xQ, opB, hn, hs, hk, he]]
 as_aux_lemma =>
  refine qO Tryz.func39 Tryz.ntmps39 Tryz.results39 ?_
  repeat (first | refine qla ?_ | refine qC (xK q1 hn) ?_ | refine qC (yO (by omega : (1 : Int) ≤ 6) (by omega : (6 : Int) ≤ 6)) ?_ | refine qC (yH hes q4 q5) ?_ | refine qlb ?_ | refine qx ?_)
  exact qe
set_option maxHeartbeats 4000000 in
theorem aFP {nm src key : ByteArray} {es : List Edt} (q1 : nm.size ≤ maxLen) (q2 : src.size ≤ maxLen) (q3 : key.size ≤ maxLen) (q4 : es.length ≤ maxLen) (q5 : ∀ e ∈ es, e.key.size ≤ maxLen) (hn : okN nm = true) (hes : xP es = true) : AC Tryz.prog 39 [.agg [.v (.int .i64 5), .v (.string nm), .v (.string src), .v (.string key), .lst 3 (es.map xS)]] ⟨.v (.bool (xQ ⟨5, nm, src, key, es⟩)), []⟩ := by
 have q4' := q4
 unfold maxLen at q4'
 by_cases he : es.length = 0
 case neg =>
  rw [show xQ _ = false from by simp [xQ, opB, hn, he]]
  as_aux_lemma =>
   refine qO Tryz.func39 Tryz.ntmps39 Tryz.results39 ?_
   repeat (first | refine qla ?_ | refine qC (xK q1 hn) ?_ | refine qC (yO (by omega : (1 : Int) ≤ 5) (by omega : (5 : Int) ≤ 6)) ?_ | refine qC (yH hes q4 q5) ?_ | refine qlb ?_ | refine qx ?_)
   exact qe
 by_cases hs : src = eB
 case neg =>
  rw [show xQ _ = false from by simp [xQ, opB, hn, hs]]
  as_aux_lemma =>
   refine qO Tryz.func39 Tryz.ntmps39 Tryz.results39 ?_
   repeat (first | refine qla ?_ | refine qC (xK q1 hn) ?_ | refine qC (yO (by omega : (1 : Int) ≤ 5) (by omega : (5 : Int) ≤ 6)) ?_ | refine qC (yH hes q4 q5) ?_ | refine qlb ?_ | refine qx ?_)
   exact qe
 cases hk : okN key with
 | false =>
  rw [show xQ _ = false from by simp [xQ, opB, hn, hs, hk]]
  as_aux_lemma =>
   refine qO Tryz.func39 Tryz.ntmps39 Tryz.results39 ?_
   repeat (first | refine qla ?_ | refine qC (xK q1 hn) ?_ | refine qC (yO (by omega : (1 : Int) ≤ 5) (by omega : (5 : Int) ≤ 6)) ?_ | refine qC (yH hes q4 q5) ?_ | refine qC (xK q3 hk) ?_ | refine qlb ?_ | refine qx ?_)
   exact qe
 | true =>
  rw [show xQ _ = true from by simp [xQ, opB, hn, hs, hk, he]]
  as_aux_lemma =>
   refine qO Tryz.func39 Tryz.ntmps39 Tryz.results39 ?_
   repeat (first | refine qla ?_ | refine qC (xK q1 hn) ?_ | refine qC (yO (by omega : (1 : Int) ≤ 5) (by omega : (5 : Int) ≤ 6)) ?_ | refine qC (yH hes q4 q5) ?_ | refine qC (xK q3 hk) ?_ | refine qlb ?_ | refine qx ?_)
   exact qe
set_option maxHeartbeats 4000000 in
theorem aFN {nm src key : ByteArray} {es : List Edt} (q1 : nm.size ≤ maxLen) (q2 : src.size ≤ maxLen) (q3 : key.size ≤ maxLen) (q4 : es.length ≤ maxLen) (q5 : ∀ e ∈ es, e.key.size ≤ maxLen) (hn : okN nm = true) (hes : xP es = true) : AC Tryz.prog 39 [.agg [.v (.int .i64 3), .v (.string nm), .v (.string src), .v (.string key), .lst 3 (es.map xS)]] ⟨.v (.bool (xQ ⟨3, nm, src, key, es⟩)), []⟩ := by
 have q4' := q4
 unfold maxLen at q4'
 by_cases hs : src = eB
 case neg =>
  rw [show xQ _ = false from by simp [xQ, opB, hn, hs]]
  as_aux_lemma =>
   refine qO Tryz.func39 Tryz.ntmps39 Tryz.results39 ?_
   repeat (first | refine qla ?_ | refine qC (xK q1 hn) ?_ | refine qC (yO (by omega : (1 : Int) ≤ 3) (by omega : (3 : Int) ≤ 6)) ?_ | refine qC (yH hes q4 q5) ?_ | refine qlb ?_ | refine qx ?_)
   exact qe
 by_cases hk : key = eB
 case neg =>
  rw [show xQ _ = false from by simp [xQ, opB, hn, hs, hk]]
  as_aux_lemma =>
   refine qO Tryz.func39 Tryz.ntmps39 Tryz.results39 ?_
   repeat (first | refine qla ?_ | refine qC (xK q1 hn) ?_ | refine qC (yO (by omega : (1 : Int) ≤ 3) (by omega : (3 : Int) ≤ 6)) ?_ | refine qC (yH hes q4 q5) ?_ | refine qlb ?_ | refine qx ?_)
   exact qe
 rw [show xQ _ = true from by simp [xQ, opB, hn, hs, hk, hes]]
 as_aux_lemma =>
  refine qO Tryz.func39 Tryz.ntmps39 Tryz.results39 ?_
  repeat (first | refine qla ?_ | refine qC (xK q1 hn) ?_ | refine qC (yO (by omega : (1 : Int) ≤ 3) (by omega : (3 : Int) ≤ 6)) ?_ | refine qC (yH hes q4 q5) ?_ | refine qlb ?_ | refine qx ?_)
  exact qe
set_option maxHeartbeats 4000000 in
theorem aE6 {o : Wsh} (ho : o.ok maxLen) : AC Tryz.prog 39 [uY o] ⟨.v (.bool (xQ o)), []⟩ := by
 obtain ⟨kind, nm, src, key, es⟩ := o
 obtain ⟨q1, q2, q3, q4, q5⟩ := ho
 simp only at q1 q2 q3 q4 q5
 have q4' := q4
 unfold maxLen at q4'
 show AC Tryz.prog 39 [.agg [.v (.int .i64 kind), .v (.string nm), .v (.string src), .v (.string key), .lst 3 (es.map xS)]] ⟨.v (.bool (xQ ⟨kind, nm, src, key, es⟩)), []⟩
 cases hn : okN nm with
 | false =>
  rw [show xQ _ = false from by simp [xQ, opB, hn]]
  as_aux_lemma =>
   refine qO Tryz.func39 Tryz.ntmps39 Tryz.results39 ?_
   repeat (first | refine qla ?_ | refine qC (xK q1 hn) ?_ | refine qlb ?_ | refine qx ?_)
   exact qe
 | true =>
 by_cases hr : 1 ≤ kind ∧ kind ≤ 6
 case neg =>
  have k1 : kind ≠ 1 := by omega
  have k2 : kind ≠ 2 := by omega
  have k3 : kind ≠ 3 := by omega
  have k4 : kind ≠ 4 := by omega
  have k5 : kind ≠ 5 := by omega
  have k6 : kind ≠ 6 := by omega
  rw [show xQ _ = false from by simp [xQ, opB, hn, k1, k2, k3, k4, k5, k6]]
  as_aux_lemma =>
   refine qO Tryz.func39 Tryz.ntmps39 Tryz.results39 ?_
   repeat (first | refine qla ?_ | refine qC (xK q1 hn) ?_ | refine qC (aHS hr) ?_ | refine qlb ?_ | refine qx ?_)
   exact qe
 cases hes : xP es with
 | false =>
  have hne : es.length ≠ 0 := fun h => by rw [aDi h] at hes; cases hes
  rw [show xQ _ = false from by simp [xQ, opB, hn, hes, hne]]
  as_aux_lemma =>
   refine qO Tryz.func39 Tryz.ntmps39 Tryz.results39 ?_
   repeat (first | refine qla ?_ | refine qC (xK q1 hn) ?_ | refine qC (yO hr.1 hr.2) ?_ | refine qC (yH hes q4 q5) ?_ | refine qlb ?_ | refine qx ?_)
   exact qe
 | true =>
 by_cases k1 : kind = 1
 case pos =>
  subst k1
  exact aFL q1 q2 q3 q4 q5 hn hes
 by_cases k2 : kind = 2
 case pos =>
  subst k2
  exact aFM q1 q2 q3 q4 q5 hn hes
 by_cases k3 : kind = 3
 case pos =>
  subst k3
  exact aFN q1 q2 q3 q4 q5 hn hes
 by_cases k4 : kind = 4
 case pos =>
  subst k4
  exact aFO q1 q2 q3 q4 q5 hn hes
 by_cases k5 : kind = 5
 case pos =>
  subst k5
  exact aFP q1 q2 q3 q4 q5 hn hes
 obtain rfl : kind = 6 := by omega
 exact aFQ q1 q2 q3 q4 q5 hn hes
end Go.Proofs.YtodckioppgjbdaaGreatDoor.AM
namespace Go.Proofs.YtodckioppgjbdaaGreatDoor.AM
open Go Go.RowKit
structure Evt where
 ver : Int
 head : Int
 lag : Bool
def aIH (e : Evt) : AV := .agg [.v (.int .i64 e.ver), .v (.int .i64 e.head), .v (.bool e.lag)]
theorem wN (e : Evt) : yB (aIH e) := by unfold aIH; simp [yB, yX]
theorem aH0 {a b : Evt} : a = b ↔ a.ver = b.ver ∧ a.head = b.head ∧ a.lag = b.lag := by
 cases a; cases b; simp
instance : DecidableEq Evt := fun a b => decidable_of_iff _ aH0.symm
structure Wat where
 name : ByteArray
 seen : Int
 queue : List Evt
def Wat.ok (w : Wat) (N : Nat) : Prop := w.name.size ≤ N ∧ w.queue.length ≤ N
attribute [local irreducible] xM xR xh y9 zF Pre ACG
end Go.Proofs.YtodckioppgjbdaaGreatDoor.AM
namespace Go.Proofs.YtodckioppgjbdaaGreatDoor.AM
open Go Go.RowKit
def aId (cap : Nat) (es : List AV) : AbsR where
 rel w b T := (∀ g, T g ↔ g = b) ∧ ∃ s r buf, w.heap[b]? = some (.chan cap buf false s r false) ∧ buf.toList.map some = es.map xY
 frame := by
  rintro w w' b T h ⟨h1, s, r, buf, h2, h3⟩
  exact ⟨h1, s, r, buf, (h b ((h1 b).2 rfl)).trans h2, h3⟩
abbrev aEf (cap : Nat) (es : List AV) : OB := ⟨.c (aId cap es), 2, []⟩
section
variable {P : Program} {f : FuncId} {args : List AV} {cap : Nat} {es es' : List AV}
end
end Go.Proofs.YtodckioppgjbdaaGreatDoor.AM
namespace Go.Proofs.YtodckioppgjbdaaGreatDoor.AM
open Go Go.RowKit Go.Conc
section
variable {P : Program} {Θ : Tab} {n : Nat}
end
section
variable {P : Program} {Θ : Tab} {n : Nat} {ops : Array Oper} {K : St → Prop} {s : St} {k : Nat}
variable {W : World} {M : Hand} {S0 : Nat → Prop} {S : Nat → Prop} {B : Nat → Nat} {V : Nat → Value} {T : Nat → Nat → Prop} {tmps : Array Value} {w : World}
theorem SimW.chan (h : SimW W M S0 s tmps w S B V T) {l cap : Nat} {es : List AV} (hl : s.hp l = some (aEf cap es)) :
 ∃ sq rq buf, w.heap[B l]? = some (.chan cap buf false sq rq false) ∧ buf.toList.map some = es.map xY ∧
  ∀ (buf' : Array Value) (s' r' : Nat) (es' : List AV), buf'.toList.map some = es'.map xY → ∃ T', SimW W M S0 (s.set l (some (aEf cap es'))) tmps (w.setChan (B l) cap buf' false s' r' false) S B V T' := by
 obtain ⟨t0, cs, ⟨_, r0⟩, r2, r3, r4, r5, r6⟩ := h.rows.ro l _ hl
 obtain ⟨hT, sq, rq, buf, hc, hq⟩ := r0
 refine ⟨sq, rq, buf, hc, hq, fun buf' s' r' es' he => ?_⟩
 have hlt := (Array.getElem?_eq_some_iff.1 hc).1
 have hTb : T l (B l) := (hT _).2 rfl
 have hoth : ∀ g, g ≠ B l → (w.setChan (B l) cap buf' false s' r' false).heap[g]? = w.heap[g]? := fun g hg => by
  simp [World.setChan, Array.getElem?_setIfInBounds_ne (Ne.symm hg)]
 have hown : ∀ g, ¬ (V l).ownBlock = some g := fun g e => by
  have := r6 g e
  subst this
  exact h.rows.nd l _ _ hl e hTb
 have hgr : Grown w (w.setChan (B l) cap buf' false s' r' false) (Blk V T l) := ⟨rfl, rfl, rfl, by simp [World.setChan], fun g _ hg => hoth g (fun e => hg (by rw [e]; exact .inr hTb))⟩
 refine ⟨_, h.inpl (ob' := aEf cap es') hl rfl hgr ?_ (fun g hg => hg)⟩
 exact ⟨t0, [], ⟨fun t' e => (by cases e), hT, s', r', buf', heap_setChan _ _ _ _ _ _ _ _ hlt, he⟩, ⟨rfl, rfl, fun g hg => by rw [(hT g).1 hg]; simp [World.setChan]; exact hlt⟩, fun x hx => (by cases hx), Nat.succ_pos 1, by
  have := kN (w' := w.setChan (B l) cap buf' false s' r' false) r5 (fun g hg => absurd hg (hown g))
  exact ⟨rfl, this.2.imp id (fun ⟨g, cap1, cur, q1, q2⟩ => absurd (show (V l).ownBlock = some g by rw [q1]; rfl) (hown g))⟩, r6⟩
end
section
variable {P : Program} {Θ : Tab} {n : Nat} {ops : Array Oper} {K : St → Prop} {s : St} {k : Nat} {x y : Operand} {ty : TypeId} {pos : String} {after : Array Edge} {l cap : Nat} {es r : List AV} {u z : Value} {v : AV} {t : Nat} {elem : TypeId}
end
end Go.Proofs.YtodckioppgjbdaaGreatDoor.AM
namespace Go.Proofs.YtodckioppgjbdaaGreatDoor.AM
open Go Go.RowKit
attribute [local irreducible] xM xR xh y9 zF Pre ACG
end Go.Proofs.YtodckioppgjbdaaGreatDoor.AM
namespace Go.Proofs.YtodckioppgjbdaaGreatDoor.AM
open Go Go.RowKit
def aIe (e : Evt) : Bool := decide (1 ≤ e.ver ∧ e.ver ≤ 1000000) && decide (0 ≤ e.head ∧ e.head ≤ 60)
def fB (e b : Evt) : Bool := decide (e.ver = b.ver + 1) || (e.lag && decide (b.ver < e.ver))
def evG (l : List Evt) (i : Nat) : Prop := ∃ h : i < l.length, aIe l[i] = true ∧ ∀ m, (hm : m + 1 = i) → fB l[i] (l[m]'(by omega)) = true
open Classical in
noncomputable def aJB (l : List Evt) : Bool := decide (∀ i, i < l.length → evG l i)
attribute [local irreducible] xM xR xh y9 zF Pre ACG
end Go.Proofs.YtodckioppgjbdaaGreatDoor.AM
namespace Go.Proofs.YtodckioppgjbdaaGreatDoor.AM
open Go Go.RowKit
def aJD (l : List Evt) : Bool := (l.drop 1).any (·.lag)
noncomputable def qB (l : List Evt) (s : Int) : Bool := decide (l.length ≤ 4) && (aJB l && (decide ((l.getLast?.map (·.ver)) = some s) && !aJD l))
attribute [local irreducible] xM xR xh y9 zF Pre ACG
theorem aHn {a b : Wat} : a = b ↔ a.name = b.name ∧ a.seen = b.seen ∧ a.queue = b.queue := by cases a; cases b; simp
instance : DecidableEq Wat := fun a b => decidable_of_iff _ aHn.symm
end Go.Proofs.YtodckioppgjbdaaGreatDoor.AM
namespace Go.Proofs.YtodckioppgjbdaaGreatDoor.AM
open Go Go.RowKit
section
variable {P : Program} {f : FuncId} {args args' : List AV} {rin rout : List OB} {out : Out}
end
section
variable {s : St} {Θ : Tab}
end
section
variable {P : Program} {Θ : Tab} {s : St} {ty : TypeId} {pos : String} {after : Array Edge} {g : Option (Nat × Bool)}
end
attribute [local irreducible] xM xR xh y9 zF Pre ACG
end Go.Proofs.YtodckioppgjbdaaGreatDoor.AM
namespace Go.Proofs.YtodckioppgjbdaaGreatDoor.AM
open Go Go.RowKit
section
variable {s : St} {Θ : Tab}
end
attribute [local irreducible] xM xR xh y9 zF Pre ACG
end Go.Proofs.YtodckioppgjbdaaGreatDoor.AM
namespace Go.Proofs.YtodckioppgjbdaaGreatDoor.AM
open Go Go.RowKit
def knd : List ByteArray := [⟨#[99, 114, 101, 97, 116, 101]⟩, ⟨#[100, 101, 108, 101, 116, 101]⟩, ⟨#[99, 111, 109, 109, 105, 116]⟩, ⟨#[109, 101, 114, 103, 101]⟩, ⟨#[103, 101, 116]⟩, ⟨#[115, 99, 97, 110]⟩]
def yu (k : Int) : ByteArray := (knd[(k - 1).toNat]?).getD ⟨#[]⟩
def aFI (w : Wsh) : ByteArray :=
 if w.kind = 1 ∨ w.kind = 4 then (((yu w.kind ++ ⟨#[32]⟩) ++ w.name) ++ ⟨#[32]⟩) ++ w.source
 else if w.kind = 3 then (((yu w.kind ++ ⟨#[32]⟩) ++ w.name) ++ ⟨#[32]⟩) ++ wK w.edits
 else if w.kind = 5 then (((yu w.kind ++ ⟨#[32]⟩) ++ w.name) ++ ⟨#[32]⟩) ++ w.key
 else (yu w.kind ++ ⟨#[32]⟩) ++ w.name
def qo (w : Wsh) : ByteArray × Int := if xQ w = true then (aFI w, 0) else (⟨#[]⟩, 1)
attribute [local irreducible] xM xR xh y9 zF Pre ACG
theorem u7 : AC Tryz.prog 93 [] ⟨.own 0, [⟨9, 1, knd.map vL⟩]⟩ := by
 refine qrf Tryz.func93 Tryz.ntmps93 Tryz.results93 ?_; conv => whnf
 exact aIV rfl rfl rfl
theorem u6 (k : Int) : (yu k).size ≤ 6 := by
 unfold yu
 rcases h : knd[(k - 1).toNat]? with _ | x
 · exact Nat.zero_le 6
 · have := List.mem_of_getElem? h
   simp only [Option.getD_some]
   simp [knd] at this
   rcases this with rfl | rfl | rfl | rfl | rfl | rfl <;> (show _ ≤ _; decide)
theorem aC7 {w : Wsh} (h : xQ w = true) : w.name.size ≤ 12 ∧ ((w.kind = 1 ∧ w.source.size ≤ 12) ∨ w.kind = 2 ∨ (w.kind = 3 ∧ xP w.edits = true) ∨ (w.kind = 4 ∧ w.source.size ≤ 12) ∨ (w.kind = 5 ∧ w.key.size ≤ 12) ∨ w.kind = 6) := by
 obtain ⟨k, nm, src, key, es⟩ := w
 unfold xQ opB at h
 dsimp only at h ⊢
 by_cases h1 : k = 1
 · subst h1
   simp only [true_or, if_true, Bool.and_eq_true] at h
   exact ⟨jE h.2.1, .inl ⟨rfl, jE h.1⟩⟩
 by_cases h4 : k = 4
 · subst h4
   simp only [or_true, if_true, Bool.and_eq_true] at h
   exact ⟨jE h.2.1, .inr (.inr (.inr (.inl ⟨rfl, jE h.1⟩)))⟩
 rw [if_neg (by omega), if_neg (by omega)] at h
 simp only [Bool.and_eq_true] at h
 refine ⟨jE h.2.1, ?_⟩
 have h2 := h.2.2
 by_cases h3 : k = 3
 · subst h3
   simp only [if_true, Bool.and_eq_true] at h2
   exact .inr (.inr (.inl ⟨rfl, h2.2.2⟩))
 rw [if_neg h3] at h2
 by_cases h5 : k = 5
 · subst h5
   simp only [if_true, Bool.and_eq_true] at h2
   exact .inr (.inr (.inr (.inr (.inl ⟨rfl, jE h2.2.1⟩))))
 rw [if_neg h5] at h2
 by_cases h6 : k = 2 ∨ k = 6
 · rcases h6 with h6 | h6
   · exact .inr (.inl h6)
   · exact .inr (.inr (.inr (.inr (.inr h6))))
 · rw [if_neg h6] at h2; cases h2
set_option maxHeartbeats 4000000 in
theorem aE7 {w : Wsh} (h : xQ w = true) : AC Tryz.prog 40 [uY w] ⟨.v (.string (aFI w)), []⟩ := by
 obtain ⟨hn, hk⟩ := aC7 h
 obtain ⟨k, nm, src, key, es⟩ := w
 clear h
 dsimp only at hn hk
 have c32 := kY 32
 unfold aFI
 dsimp only
 rcases hk with ⟨rfl, hs⟩ | rfl | ⟨rfl, hs⟩ | ⟨rfl, hs⟩ | ⟨rfl, hs⟩ | rfl
 · rw [if_pos (.inl rfl)]
   have hk : (⟨#[99, 114, 101, 97, 116, 101]⟩ : ByteArray).size ≤ 6 := u6 1
   rw [show yu 1 = (⟨#[99, 114, 101, 97, 116, 101]⟩ : ByteArray) from rfl]
   change AC Tryz.prog 40 [.agg [.v (.int .i64 1), .v (.string nm), .v (.string src), .v (.string key), .lst 3 (es.map xS)]] _
   refine qrf Tryz.func40 Tryz.ntmps40 Tryz.results40 ?_; conv => whnf
   repeat ((refine qz ?_; conv => whnf))
   refine .inr ⟨by kernel_rfl, zw (by kernel_rfl), ?_⟩
   refine xX (vo u7 rfl rfl rfl ⟨⟨rfl, rfl, rfl⟩, trivial⟩ rfl rfl rfl) vF rfl rfl (by kernel_rfl) ?_
   repeat (first
    | refine xN (uL rfl rfl rfl) rfl rfl rfl (.inl rfl) (by kernel_rfl) ?_
    | refine xN (vO rfl rfl rfl rfl rfl rfl rfl) rfl rfl rfl (.inr rfl) (by kernel_rfl) ?_
    | refine xN (xA (jO (a := 1) (b := 1) (c := ((0 : Nat) : Int)) (by decide) (by decide) (by decide)) rfl rfl rfl) rfl rfl rfl (.inl rfl) (by kernel_rfl) ?_
    | refine xX (qA (wz (j := 0) (by decide) rfl rfl rfl rfl rfl) rfl rfl) y7 rfl rfl (by kernel_rfl) ?_
    | refine xN (xA (zV (by first | omega | (simp only [ByteArray.size_append]; omega))) rfl rfl rfl) rfl rfl rfl (.inl rfl) (by kernel_rfl) ?_
    | refine xX (uO rfl) y7 rfl rfl (by kernel_rfl) ?_)
   refine vJ ?_
   conv => whnf
   repeat (first | (refine qz ?_; conv => whnf) | (refine qp (xA (zV (by first | omega | (simp only [ByteArray.size_append]; omega))) rfl rfl rfl) ?_; conv => whnf))
   exact xI rfl trivial
 · rw [if_neg (by omega), if_neg (by omega), if_neg (by omega)]
   have hk : (⟨#[100, 101, 108, 101, 116, 101]⟩ : ByteArray).size ≤ 6 := u6 2
   rw [show yu 2 = (⟨#[100, 101, 108, 101, 116, 101]⟩ : ByteArray) from rfl]
   change AC Tryz.prog 40 [.agg [.v (.int .i64 2), .v (.string nm), .v (.string src), .v (.string key), .lst 3 (es.map xS)]] _
   refine qrf Tryz.func40 Tryz.ntmps40 Tryz.results40 ?_; conv => whnf
   repeat ((refine qz ?_; conv => whnf))
   refine .inr ⟨by kernel_rfl, zw (by kernel_rfl), ?_⟩
   refine xX (vo u7 rfl rfl rfl ⟨⟨rfl, rfl, rfl⟩, trivial⟩ rfl rfl rfl) vF rfl rfl (by kernel_rfl) ?_
   repeat (first
    | refine xN (uL rfl rfl rfl) rfl rfl rfl (.inl rfl) (by kernel_rfl) ?_
    | refine xN (vO rfl rfl rfl rfl rfl rfl rfl) rfl rfl rfl (.inr rfl) (by kernel_rfl) ?_
    | refine xN (xA (jO (a := 2) (b := 1) (c := ((1 : Nat) : Int)) (by decide) (by decide) (by decide)) rfl rfl rfl) rfl rfl rfl (.inl rfl) (by kernel_rfl) ?_
    | refine xX (qA (wz (j := 1) (by decide) rfl rfl rfl rfl rfl) rfl rfl) y7 rfl rfl (by kernel_rfl) ?_
    | refine xN (xA (zV (by first | omega | (simp only [ByteArray.size_append]; omega))) rfl rfl rfl) rfl rfl rfl (.inl rfl) (by kernel_rfl) ?_
    | refine xX (uO rfl) y7 rfl rfl (by kernel_rfl) ?_)
   refine vJ ?_
   conv => whnf
   repeat (first | (refine qz ?_; conv => whnf) | (refine qp (xA (zV (by first | omega | (simp only [ByteArray.size_append]; omega))) rfl rfl rfl) ?_; conv => whnf))
   exact xI rfl trivial
 · rw [if_neg (by omega), if_pos rfl]
   have hez := aEA (jR hs)
   have hel := jb hs
   have hed := aDf (jb hs) (jR hs)
   have hk : (⟨#[99, 111, 109, 109, 105, 116]⟩ : ByteArray).size ≤ 6 := u6 3
   rw [show yu 3 = (⟨#[99, 111, 109, 109, 105, 116]⟩ : ByteArray) from rfl]
   change AC Tryz.prog 40 [.agg [.v (.int .i64 3), .v (.string nm), .v (.string src), .v (.string key), .lst 3 (es.map xS)]] _
   refine qrf Tryz.func40 Tryz.ntmps40 Tryz.results40 ?_; conv => whnf
   repeat ((refine qz ?_; conv => whnf))
   refine .inr ⟨by kernel_rfl, zw (by kernel_rfl), ?_⟩
   refine xX (vo u7 rfl rfl rfl ⟨⟨rfl, rfl, rfl⟩, trivial⟩ rfl rfl rfl) vF rfl rfl (by kernel_rfl) ?_
   repeat (first
    | refine xN (uL rfl rfl rfl) rfl rfl rfl (.inl rfl) (by kernel_rfl) ?_
    | refine xN (vO rfl rfl rfl rfl rfl rfl rfl) rfl rfl rfl (.inr rfl) (by kernel_rfl) ?_
    | refine xN (xA (jO (a := 3) (b := 1) (c := ((2 : Nat) : Int)) (by decide) (by decide) (by decide)) rfl rfl rfl) rfl rfl rfl (.inl rfl) (by kernel_rfl) ?_
    | refine xX (qA (wz (j := 2) (by decide) rfl rfl rfl rfl rfl) rfl rfl) y7 rfl rfl (by kernel_rfl) ?_
    | refine xN (xA (zV (by first | omega | (simp only [ByteArray.size_append]; omega))) rfl rfl rfl) rfl rfl rfl (.inl rfl) (by kernel_rfl) ?_
    | refine xX (uO rfl) y7 rfl rfl (by kernel_rfl) ?_)
   refine vJ ?_
   conv => whnf
   repeat (first | (refine qz ?_; conv => whnf) | (refine qp (xA (zV (by first | omega | (simp only [ByteArray.size_append]; omega))) rfl rfl rfl) ?_; conv => whnf) | (refine qc (hed) ?_; conv => whnf))
   exact xI rfl trivial
 · rw [if_pos (.inr rfl)]
   have hk : (⟨#[109, 101, 114, 103, 101]⟩ : ByteArray).size ≤ 6 := u6 4
   rw [show yu 4 = (⟨#[109, 101, 114, 103, 101]⟩ : ByteArray) from rfl]
   change AC Tryz.prog 40 [.agg [.v (.int .i64 4), .v (.string nm), .v (.string src), .v (.string key), .lst 3 (es.map xS)]] _
   refine qrf Tryz.func40 Tryz.ntmps40 Tryz.results40 ?_; conv => whnf
   repeat ((refine qz ?_; conv => whnf))
   refine .inr ⟨by kernel_rfl, zw (by kernel_rfl), ?_⟩
   refine xX (vo u7 rfl rfl rfl ⟨⟨rfl, rfl, rfl⟩, trivial⟩ rfl rfl rfl) vF rfl rfl (by kernel_rfl) ?_
   repeat (first
    | refine xN (uL rfl rfl rfl) rfl rfl rfl (.inl rfl) (by kernel_rfl) ?_
    | refine xN (vO rfl rfl rfl rfl rfl rfl rfl) rfl rfl rfl (.inr rfl) (by kernel_rfl) ?_
    | refine xN (xA (jO (a := 4) (b := 1) (c := ((3 : Nat) : Int)) (by decide) (by decide) (by decide)) rfl rfl rfl) rfl rfl rfl (.inl rfl) (by kernel_rfl) ?_
    | refine xX (qA (wz (j := 3) (by decide) rfl rfl rfl rfl rfl) rfl rfl) y7 rfl rfl (by kernel_rfl) ?_
    | refine xN (xA (zV (by first | omega | (simp only [ByteArray.size_append]; omega))) rfl rfl rfl) rfl rfl rfl (.inl rfl) (by kernel_rfl) ?_
    | refine xX (uO rfl) y7 rfl rfl (by kernel_rfl) ?_)
   refine vJ ?_
   conv => whnf
   repeat (first | (refine qz ?_; conv => whnf) | (refine qp (xA (zV (by first | omega | (simp only [ByteArray.size_append]; omega))) rfl rfl rfl) ?_; conv => whnf))
   exact xI rfl trivial
 · rw [if_neg (by omega), if_neg (by omega), if_pos rfl]
   have hk : (⟨#[103, 101, 116]⟩ : ByteArray).size ≤ 6 := u6 5
   rw [show yu 5 = (⟨#[103, 101, 116]⟩ : ByteArray) from rfl]
   change AC Tryz.prog 40 [.agg [.v (.int .i64 5), .v (.string nm), .v (.string src), .v (.string key), .lst 3 (es.map xS)]] _
   refine qrf Tryz.func40 Tryz.ntmps40 Tryz.results40 ?_; conv => whnf
   repeat ((refine qz ?_; conv => whnf))
   refine .inr ⟨by kernel_rfl, zw (by kernel_rfl), ?_⟩
   refine xX (vo u7 rfl rfl rfl ⟨⟨rfl, rfl, rfl⟩, trivial⟩ rfl rfl rfl) vF rfl rfl (by kernel_rfl) ?_
   repeat (first
    | refine xN (uL rfl rfl rfl) rfl rfl rfl (.inl rfl) (by kernel_rfl) ?_
    | refine xN (vO rfl rfl rfl rfl rfl rfl rfl) rfl rfl rfl (.inr rfl) (by kernel_rfl) ?_
    | refine xN (xA (jO (a := 5) (b := 1) (c := ((4 : Nat) : Int)) (by decide) (by decide) (by decide)) rfl rfl rfl) rfl rfl rfl (.inl rfl) (by kernel_rfl) ?_
    | refine xX (qA (wz (j := 4) (by decide) rfl rfl rfl rfl rfl) rfl rfl) y7 rfl rfl (by kernel_rfl) ?_
    | refine xN (xA (zV (by first | omega | (simp only [ByteArray.size_append]; omega))) rfl rfl rfl) rfl rfl rfl (.inl rfl) (by kernel_rfl) ?_
    | refine xX (uO rfl) y7 rfl rfl (by kernel_rfl) ?_)
   refine vJ ?_
   conv => whnf
   repeat (first | (refine qz ?_; conv => whnf) | (refine qp (xA (zV (by first | omega | (simp only [ByteArray.size_append]; omega))) rfl rfl rfl) ?_; conv => whnf))
   exact xI rfl trivial
 · rw [if_neg (by omega), if_neg (by omega), if_neg (by omega)]
   have hk : (⟨#[115, 99, 97, 110]⟩ : ByteArray).size ≤ 6 := u6 6
   rw [show yu 6 = (⟨#[115, 99, 97, 110]⟩ : ByteArray) from rfl]
   change AC Tryz.prog 40 [.agg [.v (.int .i64 6), .v (.string nm), .v (.string src), .v (.string key), .lst 3 (es.map xS)]] _
   refine qrf Tryz.func40 Tryz.ntmps40 Tryz.results40 ?_; conv => whnf
   repeat ((refine qz ?_; conv => whnf))
   refine .inr ⟨by kernel_rfl, zw (by kernel_rfl), ?_⟩
   refine xX (vo u7 rfl rfl rfl ⟨⟨rfl, rfl, rfl⟩, trivial⟩ rfl rfl rfl) vF rfl rfl (by kernel_rfl) ?_
   repeat (first
    | refine xN (uL rfl rfl rfl) rfl rfl rfl (.inl rfl) (by kernel_rfl) ?_
    | refine xN (vO rfl rfl rfl rfl rfl rfl rfl) rfl rfl rfl (.inr rfl) (by kernel_rfl) ?_
    | refine xN (xA (jO (a := 6) (b := 1) (c := ((5 : Nat) : Int)) (by decide) (by decide) (by decide)) rfl rfl rfl) rfl rfl rfl (.inl rfl) (by kernel_rfl) ?_
    | refine xX (qA (wz (j := 5) (by decide) rfl rfl rfl rfl rfl) rfl rfl) y7 rfl rfl (by kernel_rfl) ?_
    | refine xN (xA (zV (by first | omega | (simp only [ByteArray.size_append]; omega))) rfl rfl rfl) rfl rfl rfl (.inl rfl) (by kernel_rfl) ?_
    | refine xX (uO rfl) y7 rfl rfl (by kernel_rfl) ?_)
   refine vJ ?_
   conv => whnf
   repeat (first | (refine qz ?_; conv => whnf) | (refine qp (xA (zV (by first | omega | (simp only [ByteArray.size_append]; omega))) rfl rfl rfl) ?_; conv => whnf))
   exact xI rfl trivial
theorem aCn {o : Wsh} (ho : o.ok maxLen) : AC Tryz.prog 8 [uY o] ⟨.tup [.v (.string (qo o).1), .v (.int .i64 (qo o).2)], []⟩ := by
 have c1 := aE6 ho
 unfold qo
 cases h : xQ o
 case false =>
  rw [h] at c1
  refine qrf Tryz.func8 Tryz.ntmps8 Tryz.results8 ?_; conv => whnf
  repeat ((first | refine qz ?_ | refine qc (c1) ?_); conv => whnf)
  exact vP rfl rfl
 rw [h] at c1
 have c2 := aE7 h
 refine qrf Tryz.func8 Tryz.ntmps8 Tryz.results8 ?_; conv => whnf
 repeat ((first | refine qz ?_ | refine qc (c1) ?_ | refine qc (c2) ?_); conv => whnf)
 exact vP rfl rfl
theorem aDL {o : Wsh} (ho : o.ok maxLen) (h2 : AC Tryz.prog 10 [uY o] ⟨.tup [.v (.string (qo o).1), .v (.int .i64 (qo o).2)], []⟩) : AC Tryz.prog 3 [uY o] ⟨.v (.bool true), []⟩ := by
 have hz := aFR ho (l := 1048576) (by omega) (by omega)
 by_cases hsz : szH o 1048576 < 0
 · refine qrf Tryz.func3 Tryz.ntmps3 Tryz.results3 ?_; conv => whnf
   repeat ((first | refine qz ?_ | refine qc (hz) ?_); conv => whnf)
   exact xI rfl trivial
 obtain ⟨_, hm2⟩ := aI5 (by omega : 0 ≤ szH o 1048576) (by omega)
 have h1 := aCn ho
 have t1 := aFS hm2
 have e1 := aFK ho.2.2.2.1
 generalize qo o = R at h1 h2
 refine qrf Tryz.func3 Tryz.ntmps3 Tryz.results3 ?_; conv => whnf
 repeat ((first | refine qz ?_ | refine qc (hz) ?_ | refine qc (t1) ?_ | refine qc (h1) ?_ | refine qc (h2) ?_ | refine qc (e1) ?_ | refine qst ?_ | refine qdr ?_ | refine qp (xA (y5 rfl) rfl rfl rfl) ?_); conv => whnf)
 exact xI rfl trivial
end Go.Proofs.YtodckioppgjbdaaGreatDoor.AM
namespace Go.Proofs.YtodckioppgjbdaaGreatDoor.AM
open Go Go.RowKit
def jl (sep : ByteArray) (l : List ByteArray) : ByteArray := jn sep (fun i => (l[i]?).getD ⟨#[]⟩) l.length
theorem aHu (a : ByteArray) : (⟨#[]⟩ : ByteArray) ++ a = a := by
 apply ByteArray.ext
 simp [ByteArray.data_append]
theorem aIL {sep x : ByteArray} : jl sep [x] = x := by
 show jn sep _ (0 + 1) = x
 rw [aG4, aG3, aHu]; rfl
theorem aH5 {sep x : ByteArray} {l : List ByteArray} (h : l ≠ []) : jl sep (l ++ [x]) = (jl sep l ++ sep) ++ x := by
 unfold jl
 have hl : 0 < l.length := List.length_pos_iff.2 h
 rw [List.length_append, show l.length + [x].length = l.length + 1 from rfl, aG5 hl]
 have h1 : jn sep (fun i => ((l ++ [x])[i]?).getD ⟨#[]⟩) l.length = jn sep (fun i => (l[i]?).getD ⟨#[]⟩) l.length := aBV fun i hi => by rw [List.getElem?_append_left hi]
 rw [h1]
 have h2 : ((l ++ [x])[l.length]?).getD ⟨#[]⟩ = x := by rw [List.getElem?_append_right (Nat.le_refl _), Nat.sub_self]; rfl
 rw [h2]
theorem aIi {sep : ByteArray} {l : List ByteArray} {A B : Nat} (hs : sep.size ≤ A) (h : ∀ x ∈ l, x.size ≤ B) : (jl sep l).size ≤ l.length * (A + B) :=
 aBW hs fun i hi => by rw [List.getElem?_eq_getElem hi]; exact h _ (List.getElem_mem hi)
def neB (p : ByteArray) : Bool := !(Nat.beq p.size 0)
def spA (a : ByteArray) (ps : List ByteArray) : ByteArray := ps.foldl (fun a p => if p.size = 0 then a else (a ++ ⟨#[32]⟩) ++ p) a
theorem aCG {a : ByteArray} : spA a [] = a := rfl
theorem aIr {a p : ByteArray} {ps : List ByteArray} (h : p.size = 0) : spA a (p :: ps) = spA a ps := by unfold spA; rw [List.foldl_cons, if_pos h]
theorem aCi {a p : ByteArray} {ps : List ByteArray} (h : ¬ p.size = 0) : spA a (p :: ps) = spA ((a ++ ⟨#[32]⟩) ++ p) ps := by unfold spA; rw [List.foldl_cons, if_neg h]
theorem aGy {p : ByteArray} (h : p.size = 0) : neB p = false := by unfold neB; rw [h]; rfl
theorem aEq {p : ByteArray} (h : ¬ p.size = 0) : neB p = true := by
 unfold neB
 cases hb : Nat.beq p.size 0 with
 | false => rfl
 | true => exact absurd (Nat.eq_of_beq_eq_true hb) h
theorem aDF : ∀ (ps l : List ByteArray), l ≠ [] → jl ⟨#[32]⟩ (l ++ ps.filter neB) = spA (jl ⟨#[32]⟩ l) ps
 | [], l, _ => by rw [List.filter_nil, List.append_nil, aCG]
 | p :: ps, l, h => by
  by_cases hp : p.size = 0
  · rw [List.filter_cons_of_neg (by rw [aGy hp]; decide), aIr hp, aDF ps l h]
  · rw [List.filter_cons_of_pos (aEq hp), aCi hp, ← aH5 h, ← aDF ps (l ++ [p]) (by simp), List.append_assoc]; rfl
def vv (ps : List ByteArray) : ByteArray := jl ⟨#[32]⟩ (ps.filter neB)
theorem aGL {p : ByteArray} {ps : List ByteArray} (hp : ¬ p.size = 0) : vv (p :: ps) = spA p ps := by
 unfold vv
 rw [List.filter_cons_of_pos (aEq hp), show p :: ps.filter neB = [p] ++ ps.filter neB from rfl, aDF ps [p] (by simp), aIL]
theorem aHj {ps : List ByteArray} {B : Nat} (h : ∀ x ∈ ps, x.size ≤ B) : (vv ps).size ≤ ps.length * (1 + B) := by
 unfold vv
 refine Nat.le_trans (aIi (A := 1) (B := B) (by rw [kY]; omega) fun x hx => h x (List.mem_filter.1 hx).1) ?_
 exact Nat.mul_le_mul_right _ (List.length_filter_le _ _)
section
variable {s : St} {Θ : Tab}
end
section
variable {P : Program} {Θ : Tab} {s : St} {ty : TypeId} {pos : String} {after : Array Edge} {g : Option (Nat × Bool)}
end
section
variable {P : Program} {Θ : Tab} {s : St}
def mkO : Nat → List Operand → List (Nat × Operand)
 | _, [] => []
 | i, c :: r => (i, c) :: mkO (i + 1) r
theorem aEF : ∀ (xs : List Operand) (cs : List Value) (i : Nat), xs.map s.ev = cs.map .v → yF s ((mkO i xs).map (·.2)) = []
 | [], _, _, _ => by simp [mkO, yF, xk]
 | x :: xs, [], _, h => by cases h
 | x :: xs, c :: cs, i, h => by
  obtain ⟨h1, h2⟩ := List.cons.inj h
  have := aEF xs cs (i + 1) h2
  unfold yF at this ⊢
  simp only [mkO, List.map_cons, xk, h1, yK, List.nil_append]
  exact this
theorem aFj : ∀ (xs : List Operand) (cs : List Value) (i : Nat), xs.map s.ev = cs.map .v → (∀ c ∈ cs, c.oneCell' = true) → vC ((mkO i xs).map (·.2))
 | [], _, _, _, _ => by intro y hy; simp [mkO] at hy
 | x :: xs, [], _, h, _ => by cases h
 | x :: xs, c :: cs, i, h, hc => by
  obtain ⟨h1, h2⟩ := List.cons.inj h
  intro y hy v hv
  simp only [mkO, List.map_cons, List.mem_cons] at hy
  rcases hy with rfl | hy
  · subst hv
    have e : c = v := by have : AV.v v = AV.v c := h1; cases this; rfl
    subst e; exact hc _ (by simp)
  · exact aFj xs cs (i + 1) h2 (fun c hc' => hc c (by simp [hc'])) y hy v hv
theorem aFk : ∀ (xs : List Operand) (cs : List Value) (i : Nat) (zs : List AV), xs.map s.ev = cs.map .v → (∀ c ∈ cs, c.oneCell' = true) → i + cs.length = zs.length → (∀ z ∈ zs, asz z = 1) → uh s zs (mkO i xs) ∧ yS s zs (mkO i xs) = zs.take i ++ cs.map .v
 | [], [], i, zs, _, _, h, _ => by
  refine ⟨trivial, ?_⟩
  simp only [mkO, yS, List.map_nil, List.append_nil]
  rw [List.take_of_length_le (by simp at h; omega)]
 | [], c :: cs, _, _, h, _, _, _ => by cases h
 | x :: xs, [], _, _, h, _, _, _ => by cases h
 | x :: xs, c :: cs, i, zs, he, hc, h, hz => by
  obtain ⟨e1, e2⟩ := List.cons.inj he
  have hi : i < zs.length := by simp only [List.length_cons] at h; omega
  have h1 := aFk xs cs (i + 1) (zs.set i (.v c)) e2 (fun c hc' => hc c (by simp [hc'])) (by rw [List.length_set]; simp only [List.length_cons] at h; omega) (fun z hz' => by
   rcases List.mem_or_eq_of_mem_set hz' with q | q
   · exact hz z q
   · subst q; rfl)
  have hd : s.dat (s.ev x) = .v c := by rw [e1]; rfl
  refine ⟨⟨⟨zs[i], by simp [hi], by rw [hd, hz _ (List.getElem_mem hi)]; rfl⟩, by rw [e1]; exact hc c (by simp), by rw [hd]; exact h1.1⟩, ?_⟩
  simp only [mkO, yS, hd]
  rw [h1.2, List.take_succ_eq_append_getElem (by simpa using hi), List.getElem_set_self, List.take_set_of_le (Nat.le_refl _)]
  simp
theorem aDW {d : Nat} {ty : TypeId} {pos : String} {after : Array Edge} {g : Option (Nat × Bool)} {t el b m : Nat} {z : AV} {ps : Array (Nat × Operand)} (xs : List Operand) (cs : List Value) (hev : xs.map s.ev = cs.map .v) (hf : s.hp (d + 1) = none) (ht : Θ.look t = .slice el 1 b z) (hps : ps = (mkO 0 xs).toArray) (hm : m = cs.length) (hz : Nat.beq (asz z) 1 = true) (hl : Nat.ble cs.length 65536 = true) (hc : ∀ c ∈ cs, c.oneCell' = true) (hok : okL (d + 1) = true := by rfl) :
 Pre P Θ ⟨some d, .buildSlice t m ps, ty, pos, after, g⟩ s ⟨.own (d + 1), some fun s' => s'.set (d + 1) (some ⟨.s el, 1, cs.map .v⟩)⟩ := by
 subst hps hm
 have h1 := aFk (s := s) xs cs 0 (List.replicate cs.length z) hev hc (by simp) (fun y hy => by rw [List.eq_of_mem_replicate hy]; exact Nat.eq_of_beq_eq_true hz)
 have ho := aEF (s := s) xs cs 0 hev
 refine ⟨d, el, 1, b, z, rfl, hf, hok, ht, by have := Nat.le_of_ble_eq_true hl; omega, .inl ⟨h1.1, aFj xs cs 0 hev hc, ?_, ?_⟩⟩
 · show (yF s ((mkO 0 xs).map (·.2))).all okL = true
   rw [ho]; rfl
 · show _ = Eff.mk _ (qJ (yF s ((mkO 0 xs).map (·.2))) fun s' => s'.set (d + 1) (some ⟨.s el, 1, yS s (List.replicate cs.length z) (mkO 0 xs)⟩))
   rw [ho, h1.2]; rfl
theorem qj {d : Nat} {ty : TypeId} {pos : String} {after : Array Edge} {g : Option (Nat × Bool)} {t el b m : Nat} {z : AV} {ps : Array (Nat × Operand)} (xs : List Operand) (cs : List Value) (hev : xs.map s.ev = cs.map .v) (hf : s.hp (d + 1) = none) (ht : Θ.look t = .slice el 1 b z) (hps : ps = (mkO 0 xs).toArray) (hm : m = cs.length) (hz : Nat.beq (asz z) 1 = true) (hl : Nat.ble cs.length 65536 = true) (hc : ∀ c ∈ cs, c.oneCell' = true) (hok : okL (d + 1) = true := by rfl) :
 Sft P Θ ⟨some d, .buildSlice t m ps, ty, pos, after, g⟩ s (.own (d + 1)) [] [(d + 1, some ⟨.s el, 1, cs.map .v⟩)] := by
 have hmem : ∀ (ys : List Operand) (i : Nat) (x : Operand), x ∈ ys → ∃ j, (j, x) ∈ mkO i ys := by
  intro ys
  induction ys with
  | nil => intro i x h; cases h
  | cons y ys ih =>
   intro i x h
   rcases List.mem_cons.1 h with rfl | h
   · exact ⟨i, by simp [mkO]⟩
   · obtain ⟨j, hj⟩ := ih (i + 1) x h
     exact ⟨j, by simp [mkO, hj]⟩
 refine ⟨fun s' h1 h2 => ⟨⟨.own (d + 1), some fun s'' => s''.set (d + 1) (some ⟨.s el, 1, cs.map .v⟩)⟩, ?_, fun K hK => .done ?_⟩, fun l ob h => ?_, fun l hl => (by cases hl), fun l hl => .inl ?_, fun l ⟨o, hl⟩ => .inl ?_, fun l ob ⟨o, hl⟩ ho => ?_⟩
 · have hev' : xs.map s'.ev = cs.map .v := by
    rw [← hev]
    refine List.map_congr_left fun x hx => h1 x ?_
    obtain ⟨j, hj⟩ := hmem xs 0 x hx
    subst hps
    simp only [Op.operands, List.map_toArray, List.mem_toArray, List.mem_map]
    exact ⟨(j, x), hj, rfl⟩
   exact aDW xs cs hev' ((h2 _ (.inl (in1 _ _))).1.trans hf) ht hps hm hz hl hc hok
 · rw [uS, aEY]; exact hK
 · obtain ⟨_, e⟩ := nu1 h; cases e; rfl
 · simp only [AV.names] at hl; rw [← Nat.eq_of_beq_eq_true hl]; exact in1 _ _
 · obtain ⟨rfl, _⟩ := nu1 hl; exact ⟨d, rfl, rfl⟩
 · obtain ⟨rfl, _⟩ := nu1 hl; rw [hf] at ho; cases ho
end
section
variable {P : Program} {Θ : Tab} {s : St} {ty : TypeId} {pos : String} {after : Array Edge} {g : Option (Nat × Bool)}
end
section
variable {s : St} {Θ : Tab}
end
section
variable {P : Program} {Θ : Tab} {s : St} {ty : TypeId} {pos : String} {after : Array Edge} {g : Option (Nat × Bool)}
end
end Go.Proofs.YtodckioppgjbdaaGreatDoor.AM
