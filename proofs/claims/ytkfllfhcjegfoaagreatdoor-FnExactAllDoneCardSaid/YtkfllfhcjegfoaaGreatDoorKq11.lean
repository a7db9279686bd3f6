/- Texts of the machine over data, folded. -/
import Derived.Test.YtkfllfhcjegfoaaGreatDoorKq6
import Derived.Test.YtkfllfhcjegfoaaGreatDoorKq10
import Derived.Test.YtkfllfhcjegfoaaGreatDoorKq9
set_option linter.unusedVariables false
set_option linter.unusedSimpArgs false
set_option maxRecDepth 100000
namespace Go.Proofs.YtkfllfhcjegfoaaGreatDoor.AM
open Go Go.RowKit
section
variable {P : Program} {Θ : Tab} {s : St}
theorem aQp {d : Tmp} {ty : TypeId} {pos : String} {after : Array Edge} {g : Option (Nat × Bool)} {t el sz b : Nat} {z : AV} {x y : Operand} {u v : Value} (hf : s.hp (d + 1) = none) (ht : Θ.look t = .slice el sz b z) (hx : s.ev x = .v u) (hy : s.ev y = .v v) (hu : u.oneCell' = true) (hv : v.oneCell' = true) (hz : (Nat.beq sz 1 && Nat.beq (asz z) 1) = true) (hc : wD [x, y] = true) (hok : okL (d + 1) = true := by rfl) :
 Pre P Θ ⟨some d, .buildSlice t 2 #[(0, x), (1, y)], ty, pos, after, g⟩ s ⟨.own (d + 1), some fun s' => s'.set (d + 1) (some ⟨.s el, sz, [.v u, .v v]⟩)⟩ := by
 simp only [Bool.and_eq_true] at hz
 have e1 := Nat.eq_of_beq_eq_true hz.1
 have e2 := Nat.eq_of_beq_eq_true hz.2
 subst e1
 have d1 : s.dat (s.ev x) = .v u := by rw [hx]; rfl
 have d2 : s.dat (s.ev y) = .v v := by rw [hy]; rfl
 have ho : yN s [x, y] = [] := by simp [yN, hx, hy, yP, yt]
 refine ⟨d, el, 1, b, z, rfl, hf, hok, ht, by omega, .inl ⟨⟨⟨z, rfl, by rw [d1, e2]; rfl⟩, by rw [hx]; exact hu, ⟨z, rfl, by rw [d2, e2]; rfl⟩, by rw [hy]; exact hv, trivial⟩, uD hc, ?_, ?_⟩⟩
 · show (yN s [x, y]).all okL = true
   rw [ho]; rfl
 · show _ = Eff.mk _ (aAA (yN s [x, y]) fun s' => s'.set (d + 1) (some ⟨.s el, 1, [s.dat (s.ev x), s.dat (s.ev y)]⟩))
   rw [ho, d1, d2]; rfl
theorem aER {d : Tmp} {ty : TypeId} {pos : String} {after : Array Edge} {g : Option (Nat × Bool)} {t el sz b : Nat} {z : AV} {x y : Operand} {u v : Value} (hf : s.hp (d + 1) = none) (ht : Θ.look t = .slice el sz b z) (hx : s.ev x = .v u) (hy : s.ev y = .v v) (hu : u.oneCell' = true) (hv : v.oneCell' = true) (hz : (Nat.beq sz 1 && Nat.beq (asz z) 1) = true) (hc : wD [x, y] = true) (hok : okL (d + 1) = true := by rfl) :
 Sft P Θ ⟨some d, .buildSlice t 2 #[(0, x), (1, y)], ty, pos, after, g⟩ s (.own (d + 1)) [] [(d + 1, some ⟨.s el, sz, [.v u, .v v]⟩)] := by
 refine ⟨fun s' h1 h2 => ⟨⟨.own (d + 1), some fun s'' => s''.set (d + 1) (some ⟨.s el, sz, [.v u, .v v]⟩)⟩, ?_, fun K hK => .done ?_⟩, fun l ob h => ?_, fun l hl => (by cases hl), fun l hl => .inl ?_, fun l ⟨o, hl⟩ => .inl ?_, fun l ob ⟨o, hl⟩ ho => ?_⟩
 · exact aQp ((h2 _ (.inl (in1 _ _))).1.trans hf) ht ((h1 x (by simp [Op.operands])).trans hx) ((h1 y (by simp [Op.operands])).trans hy) hu hv hz hc hok
 · rw [vz, aGL]; exact hK
 · obtain ⟨_, e⟩ := nu1 h; cases e; rfl
 · simp only [AV.names] at hl; rw [← Nat.eq_of_beq_eq_true hl]; exact in1 _ _
 · obtain ⟨rfl, _⟩ := nu1 hl; exact ⟨d, rfl, rfl⟩
 · obtain ⟨rfl, _⟩ := nu1 hl; rw [hf] at ho; cases ho
end
attribute [local irreducible] xM xN xW yF yL Pre ACG
section
variable {nm : ByteArray} {f h b : Nat} {es st bm hm m out keys : List AV} {p1 p2 p3 : List AV} {c : Int}
theorem aLz (hB : AC Tryz.prog 203 [.lst 2 st, .v (.int .i64 ((h : Int) + 1)), .v (.int .i64 ((f : Int) + 1))] ⟨.v (.int .i64 ((b : Int) + 1)), []⟩) (hbf : b = f) : AC Tryz.prog 202 [.agg [vT nm ((f : Int) + 1)], .lst 2 st, .v (.int .i64 ((h : Int) + 1))] ⟨.tup [nh0, uN 18], []⟩ := by
 refine qrf Tryz.func202 Tryz.ntmps202 Tryz.results202 ?_; conv => whnf
 repeat ((first | refine qz ?_ | refine qc (hB) ?_ | refine qst ?_ | refine qdr ?_); conv => whnf)
 exact uR [] rfl rfl rfl rfl rfl trivial rfl trivial
theorem aLg (hB : AC Tryz.prog 203 [.lst 2 st, .v (.int .i64 ((h : Int) + 1)), .v (.int .i64 ((f : Int) + 1))] ⟨.v (.int .i64 ((b : Int) + 1)), []⟩) (hbf : b ≠ f) (hbh : b = h) : AC Tryz.prog 202 [.agg [vT nm ((f : Int) + 1)], .lst 2 st, .v (.int .i64 ((h : Int) + 1))] ⟨.tup [.agg [.v (.int .i64 ((f : Int) + 1)), .agg [.lst 1 [], .lst 2 []]], .v .nilIface], []⟩ := by
 refine qrf Tryz.func202 Tryz.ntmps202 Tryz.results202 ?_; conv => whnf
 repeat ((first | refine qz ?_ | refine qc (hB) ?_ | refine qst ?_ | refine qdr ?_); conv => whnf)
 exact uR [] rfl rfl rfl rfl rfl trivial rfl trivial
theorem aLI (hs : st.length ≤ maxLen) (h1 : st[f]? = some (.agg [.lst 1 p1, .lst 2 m])) (h2 : st[h]? = some (.agg [.lst 1 p2, .lst 2 hm])) (h3 : st[b]? = some (.agg [.lst 1 p3, .lst 2 bm])) (hB : AC Tryz.prog 203 [.lst 2 st, .v (.int .i64 ((h : Int) + 1)), .v (.int .i64 ((f : Int) + 1))] ⟨.v (.int .i64 ((b : Int) + 1)), []⟩) (hbf : b ≠ f) (hbh : b ≠ h) (hM : AC Tryz.prog 192 [.lst 2 bm, .lst 2 m, .lst 2 hm, .lst 1 [.v (.int .i64 ((h : Int) + 1)), .v (.int .i64 ((f : Int) + 1))]] ⟨.tup [nh0, .ifc 272 (.mix [uN c, .own 0])], [⟨9, 1, keys⟩]⟩) :
 AC Tryz.prog 202 [.agg [vT nm ((f : Int) + 1)], .lst 2 st, .v (.int .i64 ((h : Int) + 1))] ⟨.tup [nh0, .ifc 272 (.mix [uN c, .own 0])], [⟨9, 1, keys⟩]⟩ := by
 unfold maxLen at hs
 have k1 := (List.getElem?_eq_some_iff.1 h1).1
 have k2 := (List.getElem?_eq_some_iff.1 h2).1
 have k3 := (List.getElem?_eq_some_iff.1 h3).1
 refine qrf Tryz.func202 Tryz.ntmps202 Tryz.results202 ?_; conv => whnf
 repeat ((first | refine qz ?_ | refine qc (hB) ?_); conv => whnf)
 refine .inr ⟨by kernel_rfl, wV (by kernel_rfl), ?_⟩
 repeat (first | refine xK (kZ rfl) rfl rfl rfl (.inl rfl) (by kernel_rfl) ?_ | refine xK (xB (xZ (c := (f : Int)) (by omega) (by omega) (by omega)) rfl rfl rfl) rfl rfl rfl (.inl rfl) (by kernel_rfl) ?_ | refine xK (xB (xZ (c := (h : Int)) (by omega) (by omega) (by omega)) rfl rfl rfl) rfl rfl rfl (.inl rfl) (by kernel_rfl) ?_ | refine xK (xB (xZ (c := (b : Int)) (by omega) (by omega) (by omega)) rfl rfl rfl) rfl rfl rfl (.inl rfl) (by kernel_rfl) ?_ | refine xK (xk h1 rfl rfl rfl) rfl rfl rfl (.inr rfl) (by kernel_rfl) ?_ | refine xK (xk h2 rfl rfl rfl) rfl rfl rfl (.inr rfl) (by kernel_rfl) ?_ | refine xK (xk h3 rfl rfl rfl) rfl rfl rfl (.inr rfl) (by kernel_rfl) ?_ | refine xK (kF rfl rfl rfl) rfl rfl rfl (.inl rfl) (by kernel_rfl) ?_ | refine xK (qV rfl rfl rfl rfl rfl) rfl rfl rfl (.inl rfl) (by kernel_rfl) ?_ | refine xK (zi rfl rfl rfl rfl rfl rfl rfl) rfl rfl rfl (.inr rfl) (by kernel_rfl) ?_ | refine xK (aBN rfl rfl rfl rfl) rfl rfl rfl (.inr rfl) (by kernel_rfl) ?_ | refine yQ (aER rfl rfl rfl rfl rfl rfl rfl rfl) vO rfl rfl (by kernel_rfl) ?_ | refine aFk (aDd hM rfl (by first | exact trivial | exact ⟨⟨rfl, rfl, rfl⟩, trivial⟩ | exact ⟨⟨rfl, rfl, rfl⟩, ⟨rfl, rfl, rfl⟩, trivial⟩ | exact ⟨⟨rfl, rfl, rfl⟩, ⟨rfl, rfl, rfl⟩, ⟨rfl, rfl, rfl⟩, trivial⟩) rfl rfl) rfl rfl (by kernel_rfl) ?_ | refine xK (qK rfl rfl) rfl rfl rfl (.inl rfl) (by kernel_rfl) ?_ | refine yQ (wT rfl rfl rfl rfl rfl rfl rfl) vO rfl rfl (by kernel_rfl) ?_ | refine yQ (jS rfl) aAu rfl rfl (by kernel_rfl) ?_ | refine qL ?_)
 conv => whnf
 exact uR [56] rfl rfl rfl rfl rfl ⟨⟨rfl, rfl, rfl⟩, trivial⟩ rfl trivial
theorem aLd (hs : st.length ≤ maxLen) (h1 : st[f]? = some (.agg [.lst 1 p1, .lst 2 m])) (h2 : st[h]? = some (.agg [.lst 1 p2, .lst 2 hm])) (h3 : st[b]? = some (.agg [.lst 1 p3, .lst 2 bm])) (hB : AC Tryz.prog 203 [.lst 2 st, .v (.int .i64 ((h : Int) + 1)), .v (.int .i64 ((f : Int) + 1))] ⟨.v (.int .i64 ((b : Int) + 1)), []⟩) (hbf : b ≠ f) (hbh : b ≠ h) (hM : AC Tryz.prog 192 [.lst 2 bm, .lst 2 m, .lst 2 hm, .lst 1 [.v (.int .i64 ((h : Int) + 1)), .v (.int .i64 ((f : Int) + 1))]] ⟨.tup [nh0, uN 18], []⟩) :
 AC Tryz.prog 202 [.agg [vT nm ((f : Int) + 1)], .lst 2 st, .v (.int .i64 ((h : Int) + 1))] ⟨.tup [nh0, uN 18], []⟩ := by
 unfold maxLen at hs
 have k1 := (List.getElem?_eq_some_iff.1 h1).1
 have k2 := (List.getElem?_eq_some_iff.1 h2).1
 have k3 := (List.getElem?_eq_some_iff.1 h3).1
 refine qrf Tryz.func202 Tryz.ntmps202 Tryz.results202 ?_; conv => whnf
 repeat ((first | refine qz ?_ | refine qc (hB) ?_); conv => whnf)
 refine .inr ⟨by kernel_rfl, wV (by kernel_rfl), ?_⟩
 repeat (first | refine xK (kZ rfl) rfl rfl rfl (.inl rfl) (by kernel_rfl) ?_ | refine xK (xB (xZ (c := (f : Int)) (by omega) (by omega) (by omega)) rfl rfl rfl) rfl rfl rfl (.inl rfl) (by kernel_rfl) ?_ | refine xK (xB (xZ (c := (h : Int)) (by omega) (by omega) (by omega)) rfl rfl rfl) rfl rfl rfl (.inl rfl) (by kernel_rfl) ?_ | refine xK (xB (xZ (c := (b : Int)) (by omega) (by omega) (by omega)) rfl rfl rfl) rfl rfl rfl (.inl rfl) (by kernel_rfl) ?_ | refine xK (xk h1 rfl rfl rfl) rfl rfl rfl (.inr rfl) (by kernel_rfl) ?_ | refine xK (xk h2 rfl rfl rfl) rfl rfl rfl (.inr rfl) (by kernel_rfl) ?_ | refine xK (xk h3 rfl rfl rfl) rfl rfl rfl (.inr rfl) (by kernel_rfl) ?_ | refine xK (kF rfl rfl rfl) rfl rfl rfl (.inl rfl) (by kernel_rfl) ?_ | refine xK (qV rfl rfl rfl rfl rfl) rfl rfl rfl (.inl rfl) (by kernel_rfl) ?_ | refine xK (zi rfl rfl rfl rfl rfl rfl rfl) rfl rfl rfl (.inr rfl) (by kernel_rfl) ?_ | refine xK (aBN rfl rfl rfl rfl) rfl rfl rfl (.inr rfl) (by kernel_rfl) ?_ | refine yQ (aER rfl rfl rfl rfl rfl rfl rfl rfl) vO rfl rfl (by kernel_rfl) ?_ | refine aFk (aDd hM rfl (by first | exact trivial | exact ⟨⟨rfl, rfl, rfl⟩, trivial⟩ | exact ⟨⟨rfl, rfl, rfl⟩, ⟨rfl, rfl, rfl⟩, trivial⟩ | exact ⟨⟨rfl, rfl, rfl⟩, ⟨rfl, rfl, rfl⟩, ⟨rfl, rfl, rfl⟩, trivial⟩) rfl rfl) rfl rfl (by kernel_rfl) ?_ | refine xK (qK rfl rfl) rfl rfl rfl (.inl rfl) (by kernel_rfl) ?_ | refine yQ (wT rfl rfl rfl rfl rfl rfl rfl) vO rfl rfl (by kernel_rfl) ?_ | refine yQ (jS rfl) aAu rfl rfl (by kernel_rfl) ?_ | refine qL ?_)
 conv => whnf
 exact uR [] rfl rfl rfl rfl rfl trivial rfl trivial
theorem aLq (hs : st.length ≤ maxLen) (h1 : st[f]? = some (.agg [.lst 1 p1, .lst 2 m])) (h2 : st[h]? = some (.agg [.lst 1 p2, .lst 2 hm])) (h3 : st[b]? = some (.agg [.lst 1 p3, .lst 2 bm])) (hB : AC Tryz.prog 203 [.lst 2 st, .v (.int .i64 ((h : Int) + 1)), .v (.int .i64 ((f : Int) + 1))] ⟨.v (.int .i64 ((b : Int) + 1)), []⟩) (hbf : b ≠ f) (hbh : b ≠ h) (hM : AC Tryz.prog 192 [.lst 2 bm, .lst 2 m, .lst 2 hm, .lst 1 [.v (.int .i64 ((h : Int) + 1)), .v (.int .i64 ((f : Int) + 1))]] ⟨.tup [.agg [zI, .agg [.lst 1 [.v (.int .i64 ((h : Int) + 1)), .v (.int .i64 ((f : Int) + 1))], .lst 2 out]], .v .nilIface], []⟩) :
 AC Tryz.prog 202 [.agg [vT nm ((f : Int) + 1)], .lst 2 st, .v (.int .i64 ((h : Int) + 1))] ⟨.tup [.agg [zI, .agg [.lst 1 [.v (.int .i64 ((h : Int) + 1)), .v (.int .i64 ((f : Int) + 1))], .lst 2 out]], .v .nilIface], []⟩ := by
 unfold maxLen at hs
 have k1 := (List.getElem?_eq_some_iff.1 h1).1
 have k2 := (List.getElem?_eq_some_iff.1 h2).1
 have k3 := (List.getElem?_eq_some_iff.1 h3).1
 refine qrf Tryz.func202 Tryz.ntmps202 Tryz.results202 ?_; conv => whnf
 repeat ((first | refine qz ?_ | refine qc (hB) ?_); conv => whnf)
 refine .inr ⟨by kernel_rfl, wV (by kernel_rfl), ?_⟩
 repeat (first | refine xK (kZ rfl) rfl rfl rfl (.inl rfl) (by kernel_rfl) ?_ | refine xK (xB (xZ (c := (f : Int)) (by omega) (by omega) (by omega)) rfl rfl rfl) rfl rfl rfl (.inl rfl) (by kernel_rfl) ?_ | refine xK (xB (xZ (c := (h : Int)) (by omega) (by omega) (by omega)) rfl rfl rfl) rfl rfl rfl (.inl rfl) (by kernel_rfl) ?_ | refine xK (xB (xZ (c := (b : Int)) (by omega) (by omega) (by omega)) rfl rfl rfl) rfl rfl rfl (.inl rfl) (by kernel_rfl) ?_ | refine xK (xk h1 rfl rfl rfl) rfl rfl rfl (.inr rfl) (by kernel_rfl) ?_ | refine xK (xk h2 rfl rfl rfl) rfl rfl rfl (.inr rfl) (by kernel_rfl) ?_ | refine xK (xk h3 rfl rfl rfl) rfl rfl rfl (.inr rfl) (by kernel_rfl) ?_ | refine xK (kF rfl rfl rfl) rfl rfl rfl (.inl rfl) (by kernel_rfl) ?_ | refine xK (qV rfl rfl rfl rfl rfl) rfl rfl rfl (.inl rfl) (by kernel_rfl) ?_ | refine xK (zi rfl rfl rfl rfl rfl rfl rfl) rfl rfl rfl (.inr rfl) (by kernel_rfl) ?_ | refine xK (aBN rfl rfl rfl rfl) rfl rfl rfl (.inr rfl) (by kernel_rfl) ?_ | refine yQ (aER rfl rfl rfl rfl rfl rfl rfl rfl) vO rfl rfl (by kernel_rfl) ?_ | refine aFk (aDd hM rfl (by first | exact trivial | exact ⟨⟨rfl, rfl, rfl⟩, trivial⟩ | exact ⟨⟨rfl, rfl, rfl⟩, ⟨rfl, rfl, rfl⟩, trivial⟩ | exact ⟨⟨rfl, rfl, rfl⟩, ⟨rfl, rfl, rfl⟩, ⟨rfl, rfl, rfl⟩, trivial⟩) rfl rfl) rfl rfl (by kernel_rfl) ?_ | refine xK (qK rfl rfl) rfl rfl rfl (.inl rfl) (by kernel_rfl) ?_ | refine yQ (wT rfl rfl rfl rfl rfl rfl rfl) vO rfl rfl (by kernel_rfl) ?_ | refine yQ (jS rfl) aAu rfl rfl (by kernel_rfl) ?_ | refine qL ?_)
 conv => whnf
 exact uR [] rfl rfl rfl rfl rfl trivial rfl trivial
end
section
variable {st ps out keys : List AV} {c f hd : Int} {k frm : Int} {nm key : ByteArray} {es : List AV}
theorem aG2 (hL : AC Tryz.prog 190 [(.agg [vT nm frm, .lst 3 es]), .lst 2 st, .v (.int .i64 hd)] ⟨.tup [nh0, uN c], []⟩) :
 AC Tryz.prog 156 [.lst 2 st, .agg [.v (.int .i64 3), .v (.int .i64 frm), .v (.string nm), .v (.string key), .lst 3 es], .v (.int .i64 hd)] ⟨.tup [.agg [zI, .lst 2 []], uN c], []⟩ := by
 have hO := qH (frm := frm) (nm := nm) (key := key) (es := es)
 refine qrf Tryz.func156 Tryz.ntmps156 Tryz.results156 ?_; conv => whnf
 repeat ((first | refine qz ?_ | refine qc (hO) ?_ | refine qp (aBX (qw (by kernel_rfl)) rfl rfl) ?_ | refine qr (aCP (jg (by kernel_rfl)) hL rfl rfl (.inl rfl) (by first | exact trivial | exact ⟨⟨rfl, rfl, rfl⟩, trivial⟩ | exact ⟨⟨rfl, rfl, rfl⟩, ⟨rfl, rfl, rfl⟩, trivial⟩ | exact ⟨⟨rfl, rfl, rfl⟩, ⟨rfl, rfl, rfl⟩, ⟨rfl, rfl, rfl⟩, trivial⟩) rfl rfl) ?_ | refine qst ?_ | refine qdr ?_); conv => whnf)
 exact uR [] rfl rfl rfl rfl rfl trivial rfl trivial
theorem aN4 (hL : AC Tryz.prog 190 [(.agg [vT nm frm, .lst 3 es]), .lst 2 st, .v (.int .i64 hd)] ⟨.tup [nh0, .ifc 272 (.mix [uN c, .own 0])], [⟨9, 1, keys⟩]⟩) :
 AC Tryz.prog 156 [.lst 2 st, .agg [.v (.int .i64 3), .v (.int .i64 frm), .v (.string nm), .v (.string key), .lst 3 es], .v (.int .i64 hd)] ⟨.tup [.agg [zI, .lst 2 []], .ifc 272 (.mix [uN c, .own 0])], [⟨9, 1, keys⟩]⟩ := by
 have hO := qH (frm := frm) (nm := nm) (key := key) (es := es)
 refine qrf Tryz.func156 Tryz.ntmps156 Tryz.results156 ?_; conv => whnf
 repeat ((first | refine qz ?_ | refine qc (hO) ?_ | refine qp (aBX (qw (by kernel_rfl)) rfl rfl) ?_ | refine qr (aCP (jg (by kernel_rfl)) hL rfl rfl (.inl rfl) (by first | exact trivial | exact ⟨⟨rfl, rfl, rfl⟩, trivial⟩ | exact ⟨⟨rfl, rfl, rfl⟩, ⟨rfl, rfl, rfl⟩, trivial⟩ | exact ⟨⟨rfl, rfl, rfl⟩, ⟨rfl, rfl, rfl⟩, ⟨rfl, rfl, rfl⟩, trivial⟩) rfl rfl) ?_ | refine qst ?_ | refine qdr ?_); conv => whnf)
 exact uR [24] rfl rfl rfl rfl rfl ⟨⟨rfl, rfl, rfl⟩, trivial⟩ rfl trivial
theorem aNG (hL : AC Tryz.prog 190 [(.agg [vT nm frm, .lst 3 es]), .lst 2 st, .v (.int .i64 hd)] ⟨.tup [.agg [zI, .agg [.lst 1 ps, .lst 2 out]], .v .nilIface], []⟩) :
 AC Tryz.prog 156 [.lst 2 st, .agg [.v (.int .i64 3), .v (.int .i64 frm), .v (.string nm), .v (.string key), .lst 3 es], .v (.int .i64 hd)] ⟨.tup [.agg [zI, .lst 2 out], .v .nilIface], []⟩ := by
 have hO := qH (frm := frm) (nm := nm) (key := key) (es := es)
 refine qrf Tryz.func156 Tryz.ntmps156 Tryz.results156 ?_; conv => whnf
 repeat ((first | refine qz ?_ | refine qc (hO) ?_ | refine qp (aBX (qw (by kernel_rfl)) rfl rfl) ?_ | refine qr (aCP (jg (by kernel_rfl)) hL rfl rfl (.inl rfl) (by first | exact trivial | exact ⟨⟨rfl, rfl, rfl⟩, trivial⟩ | exact ⟨⟨rfl, rfl, rfl⟩, ⟨rfl, rfl, rfl⟩, trivial⟩ | exact ⟨⟨rfl, rfl, rfl⟩, ⟨rfl, rfl, rfl⟩, ⟨rfl, rfl, rfl⟩, trivial⟩) rfl rfl) ?_ | refine qst ?_ | refine qdr ?_); conv => whnf)
 exact uR [] rfl rfl rfl rfl rfl trivial rfl trivial
theorem aGh (hL : AC Tryz.prog 202 [(.agg [vT nm frm]), .lst 2 st, .v (.int .i64 hd)] ⟨.tup [nh0, uN c], []⟩) :
 AC Tryz.prog 156 [.lst 2 st, .agg [.v (.int .i64 4), .v (.int .i64 frm), .v (.string nm), .v (.string key), .lst 3 es], .v (.int .i64 hd)] ⟨.tup [.agg [zI, .lst 2 []], uN c], []⟩ := by
 have hO := kS (frm := frm) (nm := nm) (key := key) (es := es)
 refine qrf Tryz.func156 Tryz.ntmps156 Tryz.results156 ?_; conv => whnf
 repeat ((first | refine qz ?_ | refine qc (hO) ?_ | refine qp (aBX (qw (by kernel_rfl)) rfl rfl) ?_ | refine qr (aCP (jg (by kernel_rfl)) hL rfl rfl (.inl rfl) (by first | exact trivial | exact ⟨⟨rfl, rfl, rfl⟩, trivial⟩ | exact ⟨⟨rfl, rfl, rfl⟩, ⟨rfl, rfl, rfl⟩, trivial⟩ | exact ⟨⟨rfl, rfl, rfl⟩, ⟨rfl, rfl, rfl⟩, ⟨rfl, rfl, rfl⟩, trivial⟩) rfl rfl) ?_ | refine qst ?_ | refine qdr ?_); conv => whnf)
 exact uR [] rfl rfl rfl rfl rfl trivial rfl trivial
theorem aNz (hL : AC Tryz.prog 202 [(.agg [vT nm frm]), .lst 2 st, .v (.int .i64 hd)] ⟨.tup [nh0, .ifc 272 (.mix [uN c, .own 0])], [⟨9, 1, keys⟩]⟩) :
 AC Tryz.prog 156 [.lst 2 st, .agg [.v (.int .i64 4), .v (.int .i64 frm), .v (.string nm), .v (.string key), .lst 3 es], .v (.int .i64 hd)] ⟨.tup [.agg [zI, .lst 2 []], .ifc 272 (.mix [uN c, .own 0])], [⟨9, 1, keys⟩]⟩ := by
 have hO := kS (frm := frm) (nm := nm) (key := key) (es := es)
 refine qrf Tryz.func156 Tryz.ntmps156 Tryz.results156 ?_; conv => whnf
 repeat ((first | refine qz ?_ | refine qc (hO) ?_ | refine qp (aBX (qw (by kernel_rfl)) rfl rfl) ?_ | refine qr (aCP (jg (by kernel_rfl)) hL rfl rfl (.inl rfl) (by first | exact trivial | exact ⟨⟨rfl, rfl, rfl⟩, trivial⟩ | exact ⟨⟨rfl, rfl, rfl⟩, ⟨rfl, rfl, rfl⟩, trivial⟩ | exact ⟨⟨rfl, rfl, rfl⟩, ⟨rfl, rfl, rfl⟩, ⟨rfl, rfl, rfl⟩, trivial⟩) rfl rfl) ?_ | refine qst ?_ | refine qdr ?_); conv => whnf)
 exact uR [24] rfl rfl rfl rfl rfl ⟨⟨rfl, rfl, rfl⟩, trivial⟩ rfl trivial
theorem aNc (hL : AC Tryz.prog 202 [(.agg [vT nm frm]), .lst 2 st, .v (.int .i64 hd)] ⟨.tup [.agg [zI, .agg [.lst 1 ps, .lst 2 out]], .v .nilIface], []⟩) :
 AC Tryz.prog 156 [.lst 2 st, .agg [.v (.int .i64 4), .v (.int .i64 frm), .v (.string nm), .v (.string key), .lst 3 es], .v (.int .i64 hd)] ⟨.tup [.agg [zI, .lst 2 out], .v .nilIface], []⟩ := by
 have hO := kS (frm := frm) (nm := nm) (key := key) (es := es)
 refine qrf Tryz.func156 Tryz.ntmps156 Tryz.results156 ?_; conv => whnf
 repeat ((first | refine qz ?_ | refine qc (hO) ?_ | refine qp (aBX (qw (by kernel_rfl)) rfl rfl) ?_ | refine qr (aCP (jg (by kernel_rfl)) hL rfl rfl (.inl rfl) (by first | exact trivial | exact ⟨⟨rfl, rfl, rfl⟩, trivial⟩ | exact ⟨⟨rfl, rfl, rfl⟩, ⟨rfl, rfl, rfl⟩, trivial⟩ | exact ⟨⟨rfl, rfl, rfl⟩, ⟨rfl, rfl, rfl⟩, ⟨rfl, rfl, rfl⟩, trivial⟩) rfl rfl) ?_ | refine qst ?_ | refine qdr ?_); conv => whnf)
 exact uR [] rfl rfl rfl rfl rfl trivial rfl trivial
theorem aMf (hL : AC Tryz.prog 202 [(.agg [vT nm frm]), .lst 2 st, .v (.int .i64 hd)] ⟨.tup [.agg [.v (.int .i64 f), .agg [.lst 1 [], .lst 2 []]], .v .nilIface], []⟩) (hf : 0 < f) :
 AC Tryz.prog 156 [.lst 2 st, .agg [.v (.int .i64 4), .v (.int .i64 frm), .v (.string nm), .v (.string key), .lst 3 es], .v (.int .i64 hd)] ⟨.tup [.agg [.v (.int .i64 1), .lst 2 []], .v .nilIface], []⟩ := by
 have hO := kS (frm := frm) (nm := nm) (key := key) (es := es)
 refine qrf Tryz.func156 Tryz.ntmps156 Tryz.results156 ?_; conv => whnf
 repeat ((first | refine qz ?_ | refine qc (hO) ?_ | refine qp (aBX (qw (by kernel_rfl)) rfl rfl) ?_ | refine qr (aCP (jg (by kernel_rfl)) hL rfl rfl (.inl rfl) (by first | exact trivial | exact ⟨⟨rfl, rfl, rfl⟩, trivial⟩ | exact ⟨⟨rfl, rfl, rfl⟩, ⟨rfl, rfl, rfl⟩, trivial⟩ | exact ⟨⟨rfl, rfl, rfl⟩, ⟨rfl, rfl, rfl⟩, ⟨rfl, rfl, rfl⟩, trivial⟩) rfl rfl) ?_ | refine qst ?_ | refine qdr ?_); conv => whnf)
 exact uR [] rfl rfl rfl rfl rfl trivial rfl trivial
theorem aNX :
 AC Tryz.prog 156 [.lst 2 st, .agg [.v (.int .i64 1), .v (.int .i64 frm), .v (.string nm), .v (.string key), .lst 3 es], .v (.int .i64 hd)] ⟨.tup [.agg [zI, .lst 2 []], uN 9], []⟩ := by
 have hO := @aFh frm nm key es
 refine qrf Tryz.func156 Tryz.ntmps156 Tryz.results156 ?_; conv => whnf
 repeat ((first | refine qz ?_ | refine qc (hO) ?_ | refine qp (aBX (aBj (by kernel_rfl) (by kernel_rfl)) rfl rfl) ?_ | refine qst ?_ | refine qdr ?_); conv => whnf)
 exact uR [] rfl rfl rfl rfl rfl trivial rfl trivial
theorem aMM :
 AC Tryz.prog 156 [.lst 2 st, .agg [.v (.int .i64 2), .v (.int .i64 frm), .v (.string nm), .v (.string key), .lst 3 es], .v (.int .i64 hd)] ⟨.tup [.agg [zI, .lst 2 []], uN 9], []⟩ := by
 have hO := @aFM frm nm key es
 refine qrf Tryz.func156 Tryz.ntmps156 Tryz.results156 ?_; conv => whnf
 repeat ((first | refine qz ?_ | refine qc (hO) ?_ | refine qp (aBX (aBj (by kernel_rfl) (by kernel_rfl)) rfl rfl) ?_ | refine qst ?_ | refine qdr ?_); conv => whnf)
 exact uR [] rfl rfl rfl rfl rfl trivial rfl trivial
theorem aNE :
 AC Tryz.prog 156 [.lst 2 st, .agg [.v (.int .i64 5), .v (.int .i64 frm), .v (.string nm), .v (.string key), .lst 3 es], .v (.int .i64 hd)] ⟨.tup [.agg [zI, .lst 2 []], uN 9], []⟩ := by
 have hO := @aFJ frm nm key es
 refine qrf Tryz.func156 Tryz.ntmps156 Tryz.results156 ?_; conv => whnf
 repeat ((first | refine qz ?_ | refine qc (hO) ?_ | refine qp (aBX (aBj (by kernel_rfl) (by kernel_rfl)) rfl rfl) ?_ | refine qst ?_ | refine qdr ?_); conv => whnf)
 exact uR [] rfl rfl rfl rfl rfl trivial rfl trivial
theorem aMX (h1 : k ≠ 1) (h2 : k ≠ 2) (h3 : k ≠ 3) (h4 : k ≠ 4) (h5 : k ≠ 5) :
 AC Tryz.prog 156 [.lst 2 st, .agg [.v (.int .i64 k), .v (.int .i64 frm), .v (.string nm), .v (.string key), .lst 3 es], .v (.int .i64 hd)] ⟨.tup [.agg [zI, .lst 2 []], uN 9], []⟩ := by
 have hO := @aFb frm nm key es k h1 h2 h3 h4 h5
 refine qrf Tryz.func156 Tryz.ntmps156 Tryz.results156 ?_; conv => whnf
 repeat ((first | refine qz ?_ | refine qc (hO) ?_ | refine qp (aBX (aBj (by kernel_rfl) (by kernel_rfl)) rfl rfl) ?_ | refine qst ?_ | refine qdr ?_); conv => whnf)
 exact uR [] rfl rfl rfl rfl rfl trivial rfl trivial
end
end Go.Proofs.YtkfllfhcjegfoaaGreatDoor.AM
namespace Go.Proofs.YtkfllfhcjegfoaaGreatDoor
open Go.RowKit
def aQh (e : TypeId) (r : List Edt × Int) (w : World) (e' : Ending) (w' : World) : Prop := ∃ v, e' = .returned (.tuple #[v, .int .i64 r.2]) ∧ w'.ownsRow w.heap.size e 3 v r.1.length (yD r.1) ∧ Below w.heap.size w w'
theorem aQh.mk {e : TypeId} {r : List Edt × Int} {l : List Edt} {c : Int} {v : Value} {w w' : World} (h : r = (l, c)) (ho : w'.ownsRow w.heap.size e 3 v l.length (yD l)) (hb : Below w.heap.size w w') : aQh e r w (.returned (.tuple #[v, .int .i64 c])) w' := ⟨v, by rw [h], by rw [h]; exact ho, hb⟩
end Go.Proofs.YtkfllfhcjegfoaaGreatDoor
namespace Go.Proofs.YtkfllfhcjegfoaaGreatDoor.AM
open Go Go.RowKit
attribute [local irreducible] xM xN xW yF yL Pre ACG
def aDZ (es : List Edt) : List ByteArray := es.map fun e => e.key
theorem aIr (es : List Edt) : (aDZ es).length = es.length := by simp [aDZ]
theorem aOL (f : Nat) (a b : List Ent) : (yR f a b).length ≤ a.length + b.length := by
 induction f generalizing a b with
 | zero => simp [yR]
 | succ f ih =>
  match a, b with
  | [], [] => simp [yR]
  | x :: a, [] =>
   have := ih a []
   simp only [yR, List.length_cons]; simp at *; omega
  | [], y :: b =>
   have := ih [] b
   simp only [yR, List.length_cons]; simp at *; omega
  | x :: a, y :: b =>
   rw [yR]
   split
   · have := ih a (y :: b); simp at *; omega
   · split
     · have := ih (x :: a) b; simp at *; omega
     · have := ih a b
       split <;> simp at * <;> omega
theorem jw (a b : List Ent) : (yM a b).length ≤ a.length + b.length := by
 unfold yM; exact aOL _ _ _
theorem wR {α : Type} (l : List α) (z : α) (k : Nat) (h : k < l.length) : (l.take k ++ List.replicate (l.length - k) z).set k l[k] = l.take (k + 1) ++ List.replicate (l.length - (k + 1)) z := by
 have h1 : l.length - k = (l.length - (k + 1)) + 1 := by omega
 rw [h1, List.replicate_succ, List.set_append_right _ _ (by simp; omega), List.take_succ_eq_append_getElem h, List.append_assoc]
 have : k - (l.take k).length = 0 := by simp; omega
 rw [this]; rfl
end Go.Proofs.YtkfllfhcjegfoaaGreatDoor.AM
namespace Go.Proofs.YtkfllfhcjegfoaaGreatDoor.AM
open Go Go.RowKit
abbrev Cmt := List Int × List Ent
def yI (c : Cmt) : AV := .agg [.lst 1 (c.1.map zx), .lst 2 (c.2.map xP)]
theorem aP6 (cs : List Cmt) : ∀ x ∈ cs.map yI, asz x = 2 := fun x hx => by obtain ⟨e, _, rfl⟩ := List.mem_map.1 hx; rfl
theorem aPq (cs : List Int) : ∀ x ∈ cs.map zx, asz x = 1 := fun x hx => by obtain ⟨e, _, rfl⟩ := List.mem_map.1 hx; rfl
theorem aAO (e : Int) : yu (zx e) := by unfold zx; simp [yu]
def szI (n : Nat) (l : Int) : Int := if l - n < 0 then -1 else l - n
def szC (c : Cmt) (l : Int) : Int := if szI c.1.length l < 0 then -1 else if szL eSz c.2 (szI c.1.length l) < 0 then -1 else szL eSz c.2 (szI c.1.length l)
def szG {α : Type} (g : α → Int → Int) : List α → Int → Int
 | [], l => l
 | e :: es, l => if g e l < 0 then -1 else szG g es (g e l)
def kL (cs : List Cmt) (l : Int) : Int := if l - cs.length < 0 then -1 else szG szC cs (l - cs.length)
theorem aNR {c : Cmt} {l : Int} (h : 0 ≤ szC c l) : szC c l ≤ l ∧ (c.1.length : Int) ≤ l ∧ (c.2.length : Int) ≤ l ∧ ∀ e ∈ c.2, (e.1.size : Int) ≤ l := by
 unfold szC at h ⊢
 by_cases h1 : szI c.1.length l < 0
 · rw [if_pos h1] at h; omega
 · rw [if_neg h1] at h ⊢
   by_cases h2 : szL eSz c.2 (szI c.1.length l) < 0
   · rw [if_pos h2] at h; omega
   · rw [if_neg h2] at h ⊢
     obtain ⟨k1, k2, k3⟩ := aAa h
     have h3 : szI c.1.length l ≤ l ∧ (c.1.length : Int) ≤ l := by unfold szI at h1 ⊢; split at h1 <;> split <;> omega
     exact ⟨by omega, h3.2, by omega, fun e he => by have : (e.1.size : Int) ≤ _ := k3 e he; omega⟩
theorem aIs : ∀ {es : List Cmt} {l : Int}, 0 ≤ szG szC es l → szG szC es l ≤ l ∧ ∀ c ∈ es, (c.1.length : Int) ≤ l ∧ (c.2.length : Int) ≤ l ∧ ∀ e ∈ c.2, (e.1.size : Int) ≤ l
 | [], l, h => ⟨Int.le_refl _, by simp⟩
 | c :: cs, l, h => by
  unfold szG at h ⊢
  split at h
  · omega
  · rename_i hn
    rw [if_neg hn]
    obtain ⟨h1, h2⟩ := aIs h
    obtain ⟨k1, k2⟩ := aNR (by omega : 0 ≤ szC c l)
    refine ⟨by omega, fun x hx => ?_⟩
    rcases List.mem_cons.1 hx with rfl | hx
    · exact k2
    · obtain ⟨q1, q2, q3⟩ := h2 x hx
      exact ⟨by omega, by omega, fun e he => by have := q3 e he; omega⟩
theorem aOh {es : List Cmt} {k : Nat} {l : Int} (h : k < es.length) : szG szC (es.drop k) l = if szC es[k] l < 0 then -1 else szG szC (es.drop (k + 1)) (szC es[k] l) := by
 rw [List.drop_eq_getElem_cons h, szG]
theorem aPh {cs : List Cmt} {l : Int} (h : 0 ≤ kL cs l) : (cs.length : Int) ≤ l ∧ ∀ c ∈ cs, (c.1.length : Int) ≤ l ∧ (c.2.length : Int) ≤ l ∧ ∀ e ∈ c.2, (e.1.size : Int) ≤ l := by
 unfold kL at h
 split at h
 · omega
 · rename_i hn
   obtain ⟨h1, h2⟩ := aIs h
   exact ⟨by omega, fun c hc => by obtain ⟨q1, q2, q3⟩ := h2 c hc; exact ⟨by omega, by omega, fun e he => by have := q3 e he; omega⟩⟩
theorem wQ {P : Program} {Θ : Tab} {s : St} {d : Option Tmp} {ty : TypeId} {pos : String} {after : Array Edge} {g : Option (Nat × Bool)} {t : TypeId} {x y : Operand} {l l' i c : Nat} {p : List Nat} {ob ob' : OB} {q z : AV} (hq : ob.xs[i]? = some q) (hx : s.ev x = .optr l i p c) (ho : s.hp l = some ob) (hg : xq q p 0 = some (z, c)) (hs : ((Θ.look t).known && (Nat.beq (asz z) (Θ.look t).size && Nat.beq 1 (asz z))) = true) (hy : s.ev y = .own l') (ho' : s.hp l' = some ob') (hn : Nat.beq l l' = false) (hop : ob.e.open_ = true := by rfl) (hsh : ob'.e.shut = true := by rfl) (hok : okL l' = true := by rfl) (hc : cOK y = true := by rfl) :
 Pre P Θ ⟨d, .store t x y, ty, pos, after, g⟩ s ⟨.any, some fun s' => (s'.frz l').set l (some ⟨.s (ob.e.typ.getD 0), ob.sz, ob.xs.set i (uM q p (.lst ob'.sz ob'.xs))⟩)⟩ := by
 simp only [Bool.and_eq_true] at hs
 have hd : s.dat (s.ev y) = .lst ob'.sz ob'.xs := by rw [hy]; simp [St.dat, ho', hsh]
 have hown : yt (s.ev y) = [l'] := by rw [hy]; rfl
 have hda : xR s (s.ev y) = true := by rw [hy]; simp [xR, ho', hsh]
 obtain ⟨t0, he⟩ : ∃ t0, ob.e = .s t0 ∨ ob.e = .z t0 := by
  cases h : ob.e with
  | s t0 => exact ⟨t0, .inl rfl⟩
  | z t0 => exact ⟨t0, .inr rfl⟩
  | _ => rw [h] at hop; cases hop
 have ht : ob.e.typ.getD 0 = t0 := by rcases he with he | he <;> rw [he] <;> rfl
 have hne : l ≠ l' := fun e => by rw [e] at hn; simp at hn
 refine ⟨uT hc, hs.1, l, i, p, c, ob, hx, ho, .inl ⟨t0, q, z, he, hq, hg, Nat.eq_of_beq_eq_true hs.2.1, by rw [hd]; exact Nat.eq_of_beq_eq_true hs.2.2, hda, by rw [hown]; simpa using hne, by rw [hown]; simp [hok], ?_⟩⟩
 rw [hd, hown, ht]; rfl
theorem uX {s : St} {a t l : Nat} {ob : OB} {x : AV} {Θ : Tab} (h1 : s.sl a = .optr l 0 [] 0) (ho : s.hp l = some ob) (hx : ob.xs[0]? = some x) (hk : ((Θ.look t).known && (Bool.xor (zn x) (Θ.look t).isAgg).not && Nat.beq (asz x) (Θ.look t).size) = true) (hd : (match x with | .v _ | .agg _ | .lst _ _ | .any => True | _ => False)) (hop : ob.e.open_ = true := by rfl) :
 vU Θ [.cell a t] ⟨x, []⟩ .ret s := by
 have hr : rvA s (.cell a t) = x := by
  simp only [rvA, h1, ho, hop, hx, cond_true, Option.getD_some]
 simp only [Bool.and_eq_true] at hk
 refine ⟨trivial, [], by simp, trivial, ⟨⟨hk.1.1, by rw [hr]; exact xor_not hk.1.2, by rw [hr]; exact Nat.eq_of_beq_eq_true hk.2, .inl ⟨l, ob, x, h1, ho, .inl ⟨hop, hx⟩⟩⟩, trivial⟩, trivial, ⟨.inl ?_, trivial⟩⟩
 rw [hr]
 cases x <;> first | exact ⟨rfl, rfl⟩ | exact hd.elim
attribute [local irreducible] xM xN xW yF yL Pre ACG
theorem aDD {es : List Int} {l : Int} (hm : es.length ≤ maxLen) (h0 : 0 ≤ l) (h1 : l ≤ 1048576) : AC Tryz.prog 89 [.lst 1 (es.map zx), .v (.int .i64 l)] ⟨.v (.int .i64 (szI es.length l)), []⟩ := by
 unfold maxLen at hm
 unfold szI
 by_cases hn : l - es.length < 0
 · rw [if_pos hn]
   refine qrf Tryz.func89 Tryz.ntmps89 Tryz.results89 ?_; conv => whnf
   repeat ((refine qz ?_; conv => whnf))
   exact xA rfl trivial
 · rw [if_neg hn]
   refine qrf Tryz.func89 Tryz.ntmps89 Tryz.results89 ?_; conv => whnf
   repeat ((refine qz ?_; conv => whnf))
   exact xA rfl trivial
theorem aEJ {c : Cmt} {l : Int} (hm : c.1.length ≤ maxLen) (hm2 : c.2.length ≤ maxLen) (hk : ∀ e ∈ c.2, e.1.size ≤ maxLen) (h0 : 0 ≤ l) (h1 : l ≤ 1048576) : AC Tryz.prog 53 [yI c, .v (.int .i64 l)] ⟨.v (.int .i64 (szC c l)), []⟩ := by
 unfold szC
 by_cases ha : szI c.1.length l < 0
 · rw [if_pos ha]
   refine qrf Tryz.func53 Tryz.ntmps53 Tryz.results53 ?_; conv => whnf
   repeat ((first | refine qz ?_ | refine qc (aDD hm h0 h1) ?_); conv => whnf)
   exact xA rfl trivial
 · rw [if_neg ha]
   have hb : szI c.1.length l ≤ 1048576 := by unfold szI at ha ⊢; split <;> omega
   by_cases hn : szL eSz c.2 (szI c.1.length l) < 0
   · rw [if_pos hn]
     refine qrf Tryz.func53 Tryz.ntmps53 Tryz.results53 ?_; conv => whnf
     repeat ((first | refine qz ?_ | refine qc (aDD hm h0 h1) ?_ | refine qc (aAZ hm2 hk (by omega) hb) ?_); conv => whnf)
     exact xA rfl trivial
   · rw [if_neg hn]
     refine qrf Tryz.func53 Tryz.ntmps53 Tryz.results53 ?_; conv => whnf
     repeat ((first | refine qz ?_ | refine qc (aDD hm h0 h1) ?_ | refine qc (aAZ hm2 hk (by omega) hb) ?_); conv => whnf)
     exact xA rfl trivial
theorem aIt {es : List Cmt} {l : Int} (hm : es.length ≤ maxLen) (hc : ∀ c ∈ es, c.1.length ≤ maxLen ∧ c.2.length ≤ maxLen ∧ ∀ e ∈ c.2, e.1.size ≤ maxLen) (h0 : 0 ≤ l) (h1 : l ≤ 1048576) : AC Tryz.prog 27 [.lst 2 (es.map yI), .v (.int .i64 l)] ⟨.v (.int .i64 (kL es l)), []⟩ := by
 unfold maxLen at hm
 by_cases hn : l - es.length < 0
 · rw [kL, if_pos hn]
   refine qrf Tryz.func27 Tryz.ntmps27 Tryz.results27 ?_; conv => whnf
   repeat ((refine qz ?_; conv => whnf))
   exact xA rfl trivial
 · rw [kL, if_neg hn]
   refine qrf Tryz.func27 Tryz.ntmps27 Tryz.results27 ?_; conv => whnf
   repeat ((refine qz ?_; conv => whnf))
   refine xX (ι := { p : Nat × Int // p.1 ≤ es.length ∧ 0 ≤ p.2 ∧ p.2 ≤ l ∧ szG szC (es.drop p.1) p.2 = szG szC es (l - es.length) }) (fun p => ⟨[(0, .lst 2 (es.map yI)), (1, .v (.int .i64 p.1.2)), (5, .v (.int .i64 (p.1.1 : Int)))], []⟩) (fun p => es.length - p.1.1) ⟨(0, l - es.length), by simp, by omega, by omega, rfl⟩ (by exact qle) ?_
   rintro ⟨⟨k, cur⟩, hkl, hc0, hc1, hsz⟩
   simp only at hkl hc0 hc1 hsz ⊢
   conv => whnf
   by_cases hlt : k < es.length
   · have hd := aOh (l := cur) hlt
     rw [hsz] at hd
     obtain ⟨q1, q2, q3⟩ := hc _ (List.getElem_mem hlt)
     by_cases hneg : szC es[k] cur < 0
     · rw [if_pos hneg] at hd
       rw [hd]
       repeat ((first | refine qz ?_ | refine qc (aEJ q1 q2 q3 hc0 (by omega)) ?_); conv => whnf)
       exact xA rfl trivial
     · rw [if_neg hneg] at hd
       have hle := (aNR (by omega : 0 ≤ szC es[k] cur)).1
       repeat ((first | refine qz ?_ | refine qc (aEJ q1 q2 q3 hc0 (by omega)) ?_); conv => whnf)
       exact ⟨⟨(k + 1, szC es[k] cur), by simp; omega, by omega, by omega, hd.symm⟩, by exact qle, by simp; omega⟩
   · have hkk : k = es.length := by omega
     rw [hkk, List.drop_length] at hsz
     rw [← hsz]
     repeat ((refine qz ?_; conv => whnf))
     exact xA rfl trivial
theorem aNb {l : List Int} (hm : l.length ≤ 1048576) : AC Tryz.prog 102 [.lst 1 (l.map zx)] ⟨.own 0, [⟨3, 1, l.map zx⟩]⟩ := by
 refine qrf Tryz.func102 Tryz.ntmps102 Tryz.results102 ?_; conv => whnf
 repeat (first | (refine qz ?_; conv => whnf) | (refine qr (jF (n := l.length) (by omega) (by omega) (by simp; rfl) (by simp; rfl) rfl rfl) ?_; conv => whnf))
 have hrow : List.replicate l.length (AV.v (.int .i64 0)) = (l.take 0 ++ List.replicate (l.length - 0) 0).map zx := by simp [zx]
 refine xX (ι := { k : Nat // k ≤ l.length }) (fun k => ⟨[(0, .lst 1 (l.map zx)), (3, .own 8), (4, .v (.int .i64 (k.1 : Int)))], [(8, ⟨3, 1, (l.take k.1 ++ List.replicate (l.length - k.1) 0).map zx⟩)]⟩) (fun k => l.length - k.1) ⟨0, Nat.zero_le _⟩ ⟨⟨congrArg (fun x => some (OB.mk _ _ x)) hrow, trivial⟩, .inl ⟨rfl, rfl⟩, .inl ⟨rfl, rfl⟩, .inl ⟨rfl, rfl⟩, trivial⟩ ?_
 rintro ⟨k, hk⟩
 dsimp only
 conv => whnf
 by_cases hlt : k < l.length
 · have hlt2 : k < (l.take k ++ List.replicate (l.length - k) 0).length := by simp; omega
   have hset := congrArg (List.map zx) (wR l 0 k hlt)
   rw [List.map_set] at hset
   repeat ((first | refine qz ?_ | refine qp (uK (by simpa using hlt2) rfl rfl rfl rfl rfl) ?_ | refine qr (xS (jh _ hlt2) rfl rfl rfl rfl rfl rfl) ?_); conv => whnf)
   exact ⟨⟨k + 1, hlt⟩, ⟨⟨congrArg (fun x => some (OB.mk _ _ x)) hset, trivial⟩, .inl ⟨rfl, rfl⟩, .inl ⟨rfl, rfl⟩, .inl ⟨rfl, rfl⟩, trivial⟩, by simp; omega⟩
 · have hkk : k = l.length := by omega
   subst hkk
   repeat ((refine qz ?_; conv => whnf))
   exact kD rfl (by show some (OB.mk _ _ _) = _; rw [List.take_length, Nat.sub_self, List.replicate_zero, List.append_nil])
theorem aJr {c : Cmt} (hm : c.1.length ≤ 1048576) (hm2 : c.2.length ≤ 1048576) : AC Tryz.prog 69 [yI c] ⟨yI c, []⟩ := by
 refine qrf Tryz.func69 Tryz.ntmps69 Tryz.results69 ?_; conv => whnf
 repeat (first | (refine qz ?_; conv => whnf) | (refine qc (aNb hm) ?_; conv => whnf) | (refine qc (aBm hm2) ?_; conv => whnf) | (refine qr (wQ rfl rfl rfl rfl rfl rfl rfl rfl) ?_; conv => whnf) | (refine qr (xS rfl rfl rfl rfl rfl (by conv => lhs; whnf) rfl) ?_; conv => whnf))
 exact uX (x := yI c) rfl rfl rfl rfl trivial
abbrev aLa : Cmt := ([], [])
theorem aH2 {l : List Cmt} (hm : l.length ≤ 1048576) (hc : ∀ c ∈ l, c.1.length ≤ 1048576 ∧ c.2.length ≤ 1048576) : AC Tryz.prog 38 [.lst 2 (l.map yI)] ⟨.own 0, [⟨134, 2, l.map yI⟩]⟩ := by
 refine qrf Tryz.func38 Tryz.ntmps38 Tryz.results38 ?_; conv => whnf
 repeat (first | (refine qz ?_; conv => whnf) | (refine aCs (jF (n := l.length) (by omega) (by omega) (by simp; rfl) (by simp; rfl) rfl rfl) rfl rfl (fun e => by cases e) (Gh.give 8 rfl (.inr rfl) rfl (Gh.done ?_)); conv => whnf))
 have hrow : List.replicate l.length (AV.agg [.lst 1 [], .lst 2 []]) = (l.take 0 ++ List.replicate (l.length - 0) aLa).map yI := by simp [yI]
 refine xX (ι := { k : Nat // k ≤ l.length }) (fun k => ⟨[(0, .lst 2 (l.map yI)), (3, .own 8), (4, .v (.int .i64 (k.1 : Int)))], [(8, ⟨134, 2, (l.take k.1 ++ List.replicate (l.length - k.1) aLa).map yI⟩)]⟩) (fun k => l.length - k.1) ⟨0, Nat.zero_le _⟩ ⟨⟨congrArg (fun x => some (OB.mk _ _ x)) hrow, trivial⟩, .inl ⟨rfl, rfl⟩, .inl ⟨rfl, rfl⟩, .inl ⟨rfl, rfl⟩, trivial⟩ ?_
 rintro ⟨k, hk⟩
 dsimp only
 conv => whnf
 by_cases hlt : k < l.length
 · obtain ⟨q1, q2⟩ := hc _ (List.getElem_mem hlt)
   have hlt2 : k < (l.take k ++ List.replicate (l.length - k) aLa).length := by simp; omega
   have hset := congrArg (List.map yI) (wR l aLa k hlt)
   rw [List.map_set] at hset
   repeat ((first | refine qz ?_ | refine qc (aJr q1 q2) ?_ | refine qp (uK (by simpa using hlt2) rfl rfl rfl rfl rfl) ?_ | refine qr (xS (jh _ hlt2) rfl rfl rfl rfl rfl rfl) ?_); conv => whnf)
   exact ⟨⟨k + 1, hlt⟩, ⟨⟨congrArg (fun x => some (OB.mk _ _ x)) hset, trivial⟩, .inl ⟨rfl, rfl⟩, .inl ⟨rfl, rfl⟩, .inl ⟨rfl, rfl⟩, trivial⟩, by simp; omega⟩
 · have hkk : k = l.length := by omega
   subst hkk
   repeat ((refine qz ?_; conv => whnf))
   exact kD rfl (by show some (OB.mk _ _ _) = _; rw [List.take_length, Nat.sub_self, List.replicate_zero, List.append_nil])
theorem aMn {l : List Int} (hm : l.length ≤ maxLen) : AC Tryz.prog 120 [.lst 1 (l.map zx), .lst 1 (l.map zx)] ⟨.v (.bool true), []⟩ := by
 unfold maxLen at hm
 refine qrf Tryz.func120 Tryz.ntmps120 Tryz.results120 ?_; conv => whnf
 repeat ((refine qz ?_; conv => whnf))
 refine xX (ι := { k : Nat // k ≤ l.length }) (fun k => ⟨[(0, .lst 1 (l.map zx)), (1, .lst 1 (l.map zx)), (5, .v (.int .i64 (k.1 : Int)))], []⟩) (fun k => l.length - k.1) ⟨0, Nat.zero_le _⟩ (by exact qle) ?_
 rintro ⟨k, hk⟩
 dsimp only
 conv => whnf
 by_cases hlt : k < l.length
 · repeat ((refine qz ?_; conv => whnf))
   refine .inl ⟨by kernel_rfl, ?_⟩
   conv => whnf
   repeat ((first | refine qz ?_ | refine qp (xB (kT rfl) rfl rfl rfl) ?_); conv => whnf)
   exact ⟨⟨k + 1, hlt⟩, by exact qle, by simp; omega⟩
 · repeat ((refine qz ?_; conv => whnf))
   exact xA rfl trivial
theorem aJW {c : Cmt} (hm : c.1.length ≤ maxLen) (hm2 : c.2.length ≤ maxLen) : AC Tryz.prog 82 [yI c, yI c] ⟨.v (.bool true), []⟩ := by
 have he : decide (c.2 = c.2) = true := by simp
 have hq := aBo (es := c.2) (es' := c.2) hm2 hm2
 rw [he] at hq
 refine qrf Tryz.func82 Tryz.ntmps82 Tryz.results82 ?_; conv => whnf
 repeat ((first | refine qz ?_ | refine qc (aMn hm) ?_ | refine qc (hq) ?_); conv => whnf)
 exact xA rfl trivial
theorem aIV {l : List Cmt} (hm : l.length ≤ maxLen) (hc : ∀ c ∈ l, c.1.length ≤ maxLen ∧ c.2.length ≤ maxLen) : AC Tryz.prog 48 [.lst 2 (l.map yI), .lst 2 (l.map yI)] ⟨.v (.bool true), []⟩ := by
 unfold maxLen at hm
 refine qrf Tryz.func48 Tryz.ntmps48 Tryz.results48 ?_; conv => whnf
 repeat ((refine qz ?_; conv => whnf))
 refine xX (ι := { k : Nat // k ≤ l.length }) (fun k => ⟨[(0, .lst 2 (l.map yI)), (1, .lst 2 (l.map yI)), (5, .v (.int .i64 (k.1 : Int)))], []⟩) (fun k => l.length - k.1) ⟨0, Nat.zero_le _⟩ (by exact qle) ?_
 rintro ⟨k, hk⟩
 dsimp only
 conv => whnf
 by_cases hlt : k < l.length
 · obtain ⟨q1, q2⟩ := hc _ (List.getElem_mem hlt)
   repeat ((refine qz ?_; conv => whnf))
   refine .inl ⟨by kernel_rfl, ?_⟩
   conv => whnf
   repeat ((first | refine qz ?_ | refine qc (aJW q1 q2) ?_); conv => whnf)
   exact ⟨⟨k + 1, hlt⟩, by exact qle, by simp; omega⟩
 · repeat ((refine qz ?_; conv => whnf))
   exact xA rfl trivial
end Go.Proofs.YtkfllfhcjegfoaaGreatDoor.AM
namespace Go.Proofs.YtkfllfhcjegfoaaGreatDoor.AM
open Go Go.RowKit
theorem aN1 {P : Program} {w : World} {t : TypeId} {a b : Bool} (d : Nat) (h : P.underlying t = some .bool) : (Op.equalIn (d + 1) t (.bool a) (.bool b)).run P w = .ok (a == b) w := by
 simp [Op.equalIn, run_underlying h]
theorem aK7 {P : Program} {w : World} {t : TypeId} {a b : Bool} (h : P.underlying t = some .bool) : (Op.equal t (.bool a) (.bool b)).run P w = .ok (a == b) w := by
 exact aN1 9999 h
theorem jb {P : Program} {t : TypeId} {x y : Operand} {a b : Bool} (h : P.underlying t = some .bool) : zk P .neq t x y (.bool a) (.bool b) (.bool (a != b)) := fun w => by
 simp [eqGuard, binOp, aK7 h]; cases a <;> cases b <;> rfl
theorem aRX {P : Program} {t : TypeId} {x y : Operand} {a b : Bool} (h : P.underlying t = some .bool) : zk P .eql t x y (.bool a) (.bool b) (.bool (a == b)) := fun w => by
 simp [eqGuard, binOp, aK7 h]
theorem aBI {P : Program} {Θ : Tab} {s : St} {d : Option Tmp} {ty : TypeId} {pos : String} {after : Array Edge} {g : Option (Nat × Bool)} {α : Type} {f : α → AV} {t : TypeId} {x y : Operand} {el sz b h : Nat} {k : IntKind} {z : AV} {xs : List α} (hh : h ≤ xs.length) (ht : Θ.look t = .slice el sz b z) (hx : s.ev x = .lst sz (xs.map f)) (hy : s.ev y = .v (.int k (h : Int))) : Pre P Θ ⟨d, .slice t x none (some y) none, ty, pos, after, g⟩ s ⟨.lst sz ((xs.take h).map f), none⟩ := by
 have := aIW (P := P) (Θ := Θ) (s := s) (d := d) (ty := ty) (pos := pos) (after := after) (g := g) (t := t) (x := x) (lo := none) (hi := some y) (l := 0) (h := h) (xs := xs.map f) (Nat.zero_le _) (by simpa using hh) ht hx rfl ⟨k, hy⟩
 rw [List.drop_zero, ← List.map_take] at this
 exact this
def aE6 (n : Nat) (ps : List Int) (i : Nat) : Prop := ∃ h : i < ps.length, 1 ≤ ps[i] ∧ ps[i] ≤ n ∧ ps[i] ∉ ps.take i
def aHW (n : Nat) (ps : List Int) : Prop := ps.length ≤ 2 ∧ (ps.length = 0 ↔ n = 0) ∧ ∀ i, i < ps.length → aE6 n ps i
open Classical in
noncomputable def aAj (n : Nat) (ps : List Int) : Bool := decide (aHW n ps)
noncomputable def aBL (n : Nat) (c : Cmt) : Bool := zC c.2 && aAj n c.1
noncomputable def jR : Nat → List Cmt → Bool
 | _, [] => true
 | n, c :: cs => aBL n c && jR (n + 1) cs
noncomputable def yx (cs : List Cmt) : Bool := decide (1 ≤ cs.length ∧ cs.length ≤ 60) && jR 0 cs
theorem aCI {n : Nat} {ps : List Int} (h : ¬ aHW n ps) : aAj n ps = false := by unfold aAj; simpa using h
theorem aNY {n : Nat} {ps : List Int} (h : aHW n ps) : aAj n ps = true := by unfold aAj; simpa using h
theorem aEk {n : Nat} {cs : List Cmt} {k : Nat} (h : k < cs.length) : jR n (cs.drop k) = (aBL n cs[k] && jR (n + 1) (cs.drop (k + 1))) := by
 rw [List.drop_eq_getElem_cons h, jR]
attribute [local irreducible] xM xN xW yF yL Pre ACG
theorem xC {x lo hi : Int} (h : lo ≤ x) (h' : x ≤ hi) : AC Tryz.prog 33 [.v (.int .i64 x), .v (.int .i64 lo), .v (.int .i64 hi)] ⟨.v (.bool true), []⟩ := by
 refine qrf Tryz.func33 Tryz.ntmps33 Tryz.results33 ?_; conv => whnf
 repeat ((refine qz ?_; conv => whnf))
 exact xA rfl trivial
theorem y9 {x lo hi : Int} (h : ¬ (lo ≤ x ∧ x ≤ hi)) : AC Tryz.prog 33 [.v (.int .i64 x), .v (.int .i64 lo), .v (.int .i64 hi)] ⟨.v (.bool false), []⟩ := by
 by_cases h1 : lo ≤ x
 · refine qrf Tryz.func33 Tryz.ntmps33 Tryz.results33 ?_; conv => whnf
   repeat ((refine qz ?_; conv => whnf))
   exact xA rfl trivial
 · refine qrf Tryz.func33 Tryz.ntmps33 Tryz.results33 ?_; conv => whnf
   repeat ((refine qz ?_; conv => whnf))
   exact xA rfl trivial
theorem aIM {pre : List Cmt} {c : Cmt} (hn : pre.length ≤ maxLen) (hm : c.1.length ≤ maxLen) (hm2 : c.2.length ≤ maxLen) (hk : ∀ e ∈ c.2, e.1.size ≤ maxLen) : AC Tryz.prog 94 [.lst 2 (pre.map yI), yI c] ⟨.v (.bool (aBL pre.length c)), []⟩ := by
 have hn' := hn
 unfold maxLen at hn'
 unfold aBL
 cases hmo : zC c.2 with
 | false =>
  refine qrf Tryz.func94 Tryz.ntmps94 Tryz.results94 ?_; conv => whnf
  repeat ((first | refine qz ?_ | refine qc (qE hmo hm2 hk) ?_); conv => whnf)
  exact xA rfl trivial
 | true =>
  rw [Bool.true_and]
  by_cases h2 : c.1.length ≤ 2
  case neg =>
   rw [aCI (fun h => h2 h.1)]
   refine qrf Tryz.func94 Tryz.ntmps94 Tryz.results94 ?_; conv => whnf
   repeat ((first | refine qz ?_ | refine qc (qE hmo hm2 hk) ?_); conv => whnf)
   exact xA rfl trivial
  by_cases h3 : c.1.length = 0 ↔ pre.length = 0
  case neg =>
   rw [aCI (fun h => h3 h.2.1)]
   by_cases h4 : c.1.length = 0
   · have h5 : ¬ pre.length = 0 := fun e => h3 ⟨fun _ => e, fun _ => h4⟩
     refine qrf Tryz.func94 Tryz.ntmps94 Tryz.results94 ?_; conv => whnf
     repeat ((first | refine qz ?_ | refine qc (qE hmo hm2 hk) ?_ | refine qp (xB (jb Tryz.underlying4) rfl rfl rfl) ?_); conv => whnf)
     exact xA rfl trivial
   · have h5 : pre.length = 0 := Classical.byContradiction fun e => h3 ⟨fun q => absurd q h4, fun q => absurd q e⟩
     refine qrf Tryz.func94 Tryz.ntmps94 Tryz.results94 ?_; conv => whnf
     repeat ((first | refine qz ?_ | refine qc (qE hmo hm2 hk) ?_ | refine qp (xB (jb Tryz.underlying4) rfl rfl rfl) ?_); conv => whnf)
     exact xA rfl trivial
  have fin : ∀ k, k ≤ c.1.length → ¬ k < c.1.length → (∀ i, i < k → aE6 pre.length c.1 i) → aAj pre.length c.1 = true := fun k h1 h2' h3' => aNY ⟨h2, h3, fun i hi => h3' i (by omega)⟩
  have bad : ∀ k, k < c.1.length → ¬ aE6 pre.length c.1 k → aAj pre.length c.1 = false := fun k h1 h2' => aCI (fun h => h2' (h.2.2 k h1))
  by_cases h4 : c.1.length = 0
  · have h5 : pre.length = 0 := h3.1 h4
    rw [fin 0 (by omega) (by omega) (fun i h => by omega)]
    refine qrf Tryz.func94 Tryz.ntmps94 Tryz.results94 ?_; conv => whnf
    repeat ((first | refine qz ?_ | refine qc (qE hmo hm2 hk) ?_ | refine qp (xB (jb Tryz.underlying4) rfl rfl rfl) ?_); conv => whnf)
    refine xX (ι := Unit) (fun _ => ⟨[(5, .v (.int .i64 (c.1.length : Int))), (6, .v (.int .i64 0))], []⟩) (fun _ => 0) () ⟨trivial, .inl ⟨rfl, rfl⟩, .inl ⟨rfl, rfl⟩, trivial⟩ ?_
    rintro ⟨⟩
    conv => whnf
    repeat ((refine qz ?_; conv => whnf))
    exact xA rfl trivial
  · have h5 : ¬ pre.length = 0 := fun e => h4 (h3.2 e)
    refine qrf Tryz.func94 Tryz.ntmps94 Tryz.results94 ?_; conv => whnf
    repeat ((first | refine qz ?_ | refine qc (qE hmo hm2 hk) ?_ | refine qp (xB (jb Tryz.underlying4) rfl rfl rfl) ?_); conv => whnf)
    refine xX (ι := { k : Nat // k ≤ c.1.length ∧ ∀ i, i < k → aE6 pre.length c.1 i }) (fun k => ⟨[(0, .lst 2 (pre.map yI)), (3, .optr 4 0 [] 0), (5, .v (.int .i64 (c.1.length : Int))), (6, .v (.int .i64 (k.1 : Int)))], [(4, ⟨134, 2, [yI c]⟩)]⟩) (fun k => c.1.length - k.1) ⟨0, Nat.zero_le _, fun i h => by omega⟩ ⟨⟨rfl, trivial⟩, .inl ⟨rfl, rfl⟩, .inl ⟨rfl, rfl⟩, .inl ⟨rfl, rfl⟩, .inl ⟨rfl, rfl⟩, trivial⟩ ?_
    rintro ⟨k, hk', hg⟩
    dsimp only at hk' hg ⊢
    conv => whnf
    by_cases hlt : k < c.1.length
    case neg =>
     rw [fin k hk' hlt hg]
     repeat ((refine qz ?_; conv => whnf))
     exact xA rfl trivial
    have h0 : 0 < c.1.length := by omega
    by_cases hin : 1 ≤ c.1[k] ∧ c.1[k] ≤ (pre.length : Int)
    case neg =>
     rw [bad k hlt (fun ⟨_, q1, q2, _⟩ => hin ⟨q1, q2⟩)]
     repeat ((refine qz ?_; conv => whnf))
     refine .inl ⟨by kernel_rfl, ?_⟩
     conv => whnf
     repeat ((first | refine qz ?_ | refine qc (y9 hin) ?_); conv => whnf)
     exact xA rfl trivial
    by_cases hk0 : k = 0
    · subst hk0
      repeat ((refine qz ?_; conv => whnf))
      refine .inl ⟨by kernel_rfl, ?_⟩
      conv => whnf
      repeat ((first | refine qz ?_ | refine qc (xC hin.1 hin.2) ?_); conv => whnf)
      exact ⟨⟨0 + 1, hlt, fun i hi => by
       have : i = 0 := by omega
       subst this; exact ⟨hlt, hin.1, hin.2, by simp⟩⟩, by exact qle, by simp; omega⟩
    · have hk1 : k = 1 := by omega
      subst hk1
      have htk : c.1.take 1 = [c.1[0]] := by
       rw [show (1 : Nat) = 0 + 1 from rfl, List.take_succ_eq_append_getElem h0]; simp
      by_cases hne : c.1[1] = c.1[0]
      · rw [bad 1 hlt (fun ⟨_, _, _, q⟩ => q (by rw [htk, hne]; simp))]
        repeat ((refine qz ?_; conv => whnf))
        refine .inl ⟨by kernel_rfl, ?_⟩
        conv => whnf
        repeat ((first | refine qz ?_ | refine qc (xC hin.1 hin.2) ?_ | refine qp (xk (j := 0) (jh _ h0) rfl rfl rfl) ?_); conv => whnf)
        exact xA rfl trivial
      · repeat ((refine qz ?_; conv => whnf))
        refine .inl ⟨by kernel_rfl, ?_⟩
        conv => whnf
        repeat ((first | refine qz ?_ | refine qc (xC hin.1 hin.2) ?_ | refine qp (xk (j := 0) (jh _ h0) rfl rfl rfl) ?_); conv => whnf)
        exact ⟨⟨1 + 1, hlt, fun i hi => by
         rcases Nat.lt_or_ge i 1 with h | h
         · exact hg i h
         · have : i = 1 := by omega
           subst this; exact ⟨hlt, hin.1, hin.2, by rw [htk]; simpa using hne⟩⟩, by exact qle, by simp; omega⟩
theorem aOF {cs : List Cmt} (hn : cs.length ≤ maxLen) (hc : ∀ c ∈ cs, c.1.length ≤ maxLen ∧ c.2.length ≤ maxLen ∧ ∀ e ∈ c.2, e.1.size ≤ maxLen) : AC Tryz.prog 60 [.lst 2 (cs.map yI)] ⟨.v (.bool (yx cs)), []⟩ := by
 have hn' := hn
 unfold maxLen at hn'
 unfold yx
 by_cases hin : (1 : Int) ≤ (cs.length : Int) ∧ (cs.length : Int) ≤ 60
 case neg =>
  have : decide (1 ≤ cs.length ∧ cs.length ≤ 60) = false := by simp; omega
  rw [this, Bool.false_and]
  refine qrf Tryz.func60 Tryz.ntmps60 Tryz.results60 ?_; conv => whnf
  repeat ((first | refine qz ?_ | refine qc (y9 hin) ?_); conv => whnf)
  exact xA rfl trivial
 have : decide (1 ≤ cs.length ∧ cs.length ≤ 60) = true := by simp; omega
 rw [this, Bool.true_and]
 refine qrf Tryz.func60 Tryz.ntmps60 Tryz.results60 ?_; conv => whnf
 repeat ((first | refine qz ?_ | refine qc (xC hin.1 hin.2) ?_); conv => whnf)
 refine xX (ι := { k : Nat // k ≤ cs.length ∧ jR k (cs.drop k) = jR 0 cs }) (fun k => ⟨[(0, .lst 2 (cs.map yI)), (3, .v (.int .i64 (k.1 : Int)))], []⟩) (fun k => cs.length - k.1) ⟨0, Nat.zero_le _, rfl⟩ (by exact qle) ?_
 rintro ⟨k, hk', hd⟩
 dsimp only at hk' hd ⊢
 conv => whnf
 by_cases hlt : k < cs.length
 case neg =>
  rw [← hd, List.drop_eq_nil_of_le (by omega)]
  repeat ((refine qz ?_; conv => whnf))
  exact xA rfl trivial
 obtain ⟨q1, q2, q3⟩ := hc _ (List.getElem_mem hlt)
 rw [aEk hlt] at hd
 have hl : (cs.take k).length = k := by simp; omega
 have hac := aIM (pre := cs.take k) (c := cs[k]) (by omega) q1 q2 q3
 rw [hl] at hac
 cases hb : aBL k cs[k] with
 | false =>
  rw [hb, Bool.false_and] at hd
  rw [hb] at hac
  rw [← hd]
  repeat ((refine qz ?_; conv => whnf))
  refine .inl ⟨by kernel_rfl, ?_⟩
  conv => whnf
  repeat ((first | refine qz ?_ | refine qc (hac) ?_ | refine qp (aBI (h := k) (xs := cs) (f := yI) (by omega) rfl rfl rfl) ?_); conv => whnf)
  exact xA rfl trivial
 | true =>
  rw [hb, Bool.true_and] at hd
  rw [hb] at hac
  repeat ((refine qz ?_; conv => whnf))
  refine .inl ⟨by kernel_rfl, ?_⟩
  conv => whnf
  repeat ((first | refine qz ?_ | refine qc (hac) ?_ | refine qp (aBI (h := k) (xs := cs) (f := yI) (by omega) rfl rfl rfl) ?_); conv => whnf)
  exact ⟨⟨k + 1, hlt, hd⟩, by exact qle, by simp; omega⟩
end Go.Proofs.YtkfllfhcjegfoaaGreatDoor.AM
namespace Go.Proofs.YtkfllfhcjegfoaaGreatDoor.AM
open Go Go.RowKit
def aB2 : List Int → Int → Nat → Int
 | [], _, _ => -1
 | y :: l, x, k => if x = y then k else aB2 l x (k + 1)
theorem aId : ∀ {l : List Int} {x : Int} {k : Nat}, x ∈ l → 0 ≤ aB2 l x k
 | y :: l, x, k, h => by
  unfold aB2
  split
  · omega
  · rename_i hne
    rcases List.mem_cons.1 h with e | e
    · exact absurd e hne
    · exact aId e
theorem aH9 : ∀ {l : List Int} {x : Int} {k : Nat}, x ∉ l → aB2 l x k = -1
 | [], x, k, h => rfl
 | y :: l, x, k, h => by
  unfold aB2
  rw [List.mem_cons, not_or] at h
  rw [if_neg h.1]; exact aH9 h.2
theorem aMI {l : List Int} {x : Int} {k : Nat} (h : k < l.length) : aB2 (l.drop k) x k = if x = l[k] then (k : Int) else aB2 (l.drop (k + 1)) x (k + 1) := by
 rw [List.drop_eq_getElem_cons h, aB2]
attribute [local irreducible] xM xN xW yF yL Pre ACG
theorem aIe {l : List Int} {x : Int} (hm : l.length ≤ maxLen) : AC Tryz.prog 170 [.lst 1 (l.map zx), .v (.int .i64 x)] ⟨.v (.int .i64 (aB2 l x 0)), []⟩ := by
 unfold maxLen at hm
 refine qrf Tryz.func170 Tryz.ntmps170 Tryz.results170 ?_; conv => whnf
 repeat ((refine qz ?_; conv => whnf))
 refine xX (ι := { k : Nat // k ≤ l.length ∧ aB2 (l.drop k) x k = aB2 l x 0 }) (fun k => ⟨[(0, .lst 1 (l.map zx)), (1, .v (.int .i64 x)), (7, .v (.int .i64 (l.length : Int))), (8, .v (.int .i64 (k.1 : Int)))], []⟩) (fun k => l.length - k.1) ⟨0, Nat.zero_le _, rfl⟩ (by exact qle) ?_
 rintro ⟨k, hk, hd⟩
 dsimp only at hk hd ⊢
 conv => whnf
 by_cases hlt : k < l.length
 · rw [aMI hlt] at hd
   by_cases he : x = l[k]
   · rw [if_pos he] at hd
     rw [← hd]
     repeat ((refine qz ?_; conv => whnf))
     exact xA rfl trivial
   · rw [if_neg he] at hd
     repeat ((refine qz ?_; conv => whnf))
     exact ⟨⟨k + 1, hlt, hd⟩, by exact qle, by simp; omega⟩
 · rw [← hd, List.drop_eq_nil_of_le (by omega)]
   repeat ((refine qz ?_; conv => whnf))
   exact xA rfl trivial
theorem aHM {l : List Int} {x : Int} (hm : l.length ≤ maxLen) (h : x ∈ l) : AC Tryz.prog 168 [.lst 1 (l.map zx), .v (.int .i64 x)] ⟨.v (.bool true), []⟩ := by
 have hge := aId (k := 0) h
 refine qrf Tryz.func168 Tryz.ntmps168 Tryz.results168 ?_; conv => whnf
 repeat ((first | refine qz ?_ | refine qc (aIe hm) ?_); conv => whnf)
 exact xA rfl trivial
theorem aHK {l : List Int} {x : Int} (hm : l.length ≤ maxLen) (h : x ∉ l) : AC Tryz.prog 168 [.lst 1 (l.map zx), .v (.int .i64 x)] ⟨.v (.bool false), []⟩ := by
 have hge := aH9 (k := 0) h
 have hac := aIe (x := x) hm
 rw [hge] at hac
 refine qrf Tryz.func168 Tryz.ntmps168 Tryz.results168 ?_; conv => whnf
 repeat ((first | refine qz ?_ | refine qc (hac) ?_); conv => whnf)
 exact xA rfl trivial
theorem aH7 {n : Nat} {ps : List Int} (hn : n ≤ 1048576) (hm : ps.length ≤ maxLen) : AC Tryz.prog 153 [.lst 1 (ps.map zx), .v (.int .i64 ((n : Int) + 1))] ⟨.v (.bool (aAj n ps)), []⟩ := by
 have hm' := hm
 unfold maxLen at hm'
 by_cases h2 : ps.length ≤ 2
 case neg =>
  rw [aCI (fun h => h2 h.1)]
  refine qrf Tryz.func153 Tryz.ntmps153 Tryz.results153 ?_; conv => whnf
  by_cases h5 : n = 0
  · repeat ((refine qz ?_; conv => whnf))
    exact xA rfl trivial
  · repeat ((refine qz ?_; conv => whnf))
    exact xA rfl trivial
 by_cases h3 : ps.length = 0 ↔ n = 0
 case neg =>
  rw [aCI (fun h => h3 h.2.1)]
  by_cases h4 : ps.length = 0
  · have h5 : ¬ n = 0 := fun e => h3 ⟨fun _ => e, fun _ => h4⟩
    refine qrf Tryz.func153 Tryz.ntmps153 Tryz.results153 ?_; conv => whnf
    repeat ((first | refine qz ?_ | refine qp (xB (jb Tryz.underlying4) rfl rfl rfl) ?_); conv => whnf)
    exact xA rfl trivial
  · have h5 : n = 0 := Classical.byContradiction fun e => h3 ⟨fun q => absurd q h4, fun q => absurd q e⟩
    refine qrf Tryz.func153 Tryz.ntmps153 Tryz.results153 ?_; conv => whnf
    repeat ((first | refine qz ?_ | refine qp (xB (jb Tryz.underlying4) rfl rfl rfl) ?_); conv => whnf)
    exact xA rfl trivial
 have fin : ∀ k, k ≤ ps.length → ¬ k < ps.length → (∀ i, i < k → aE6 n ps i) → aAj n ps = true := fun k h1 h2' h3' => aNY ⟨h2, h3, fun i hi => h3' i (by omega)⟩
 have bad : ∀ k, k < ps.length → ¬ aE6 n ps k → aAj n ps = false := fun k h1 h2' => aCI (fun h => h2' (h.2.2 k h1))
 have loop : ∀ (s : St), s.le ⟨[(0, .lst 1 (ps.map zx)), (1, .v (.int .i64 ((n : Int) + 1))), (20, .lst 1 (ps.map zx)), (21, .v (.int .i64 (ps.length : Int))), (22, .v (.int .i64 0))], []⟩ → True := fun _ _ => trivial
 by_cases h4 : ps.length = 0
 · have h5 : n = 0 := h3.1 h4
   rw [fin 0 (by omega) (by omega) (fun i h => by omega)]
   refine qrf Tryz.func153 Tryz.ntmps153 Tryz.results153 ?_; conv => whnf
   repeat ((first | refine qz ?_ | refine qp (xB (jb Tryz.underlying4) rfl rfl rfl) ?_); conv => whnf)
   refine xX (ι := Unit) (fun _ => ⟨[(21, .v (.int .i64 (ps.length : Int))), (22, .v (.int .i64 0))], []⟩) (fun _ => 0) () ⟨trivial, .inl ⟨rfl, rfl⟩, .inl ⟨rfl, rfl⟩, trivial⟩ ?_
   rintro ⟨⟩
   conv => whnf
   repeat ((refine qz ?_; conv => whnf))
   exact xA rfl trivial
 · have h5 : ¬ n = 0 := fun e => h4 (h3.2 e)
   refine qrf Tryz.func153 Tryz.ntmps153 Tryz.results153 ?_; conv => whnf
   repeat ((first | refine qz ?_ | refine qp (xB (jb Tryz.underlying4) rfl rfl rfl) ?_); conv => whnf)
   refine xX (ι := { k : Nat // k ≤ ps.length ∧ ∀ i, i < k → aE6 n ps i }) (fun k => ⟨[(0, .lst 1 (ps.map zx)), (1, .v (.int .i64 ((n : Int) + 1))), (20, .lst 1 (ps.map zx)), (21, .v (.int .i64 (ps.length : Int))), (22, .v (.int .i64 (k.1 : Int)))], []⟩) (fun k => ps.length - k.1) ⟨0, Nat.zero_le _, fun i h => by omega⟩ (by exact qle) ?_
   rintro ⟨k, hk', hg⟩
   dsimp only at hk' hg ⊢
   conv => whnf
   by_cases hlt : k < ps.length
   case neg =>
    rw [fin k hk' hlt hg]
    repeat ((refine qz ?_; conv => whnf))
    exact xA rfl trivial
   have hl : (ps.take k).length ≤ maxLen := by unfold maxLen; simp; omega
   by_cases h1 : ps[k] < 1
   · rw [bad k hlt (fun ⟨_, q1, q2, _⟩ => by omega)]
     repeat ((refine qz ?_; conv => whnf))
     exact xA rfl trivial
   by_cases h6 : ps[k] ≥ (n : Int) + 1
   · rw [bad k hlt (fun ⟨_, q1, q2, _⟩ => by omega)]
     repeat ((refine qz ?_; conv => whnf))
     exact xA rfl trivial
   by_cases h7 : ps[k] ∈ ps.take k
   · rw [bad k hlt (fun ⟨_, _, _, q⟩ => q h7)]
     repeat ((first | refine qz ?_ | refine qp (aBI (h := k) (xs := ps) (f := zx) (by omega) rfl rfl rfl) ?_ | refine qc (aHM hl h7) ?_); conv => whnf)
     exact xA rfl trivial
   · repeat ((first | refine qz ?_ | refine qp (aBI (h := k) (xs := ps) (f := zx) (by omega) rfl rfl rfl) ?_ | refine qc (aHK hl h7) ?_); conv => whnf)
     exact ⟨⟨k + 1, hlt, fun i hi => by
      rcases Nat.lt_or_ge i k with h | h
      · exact hg i h
      · have : i = k := by omega
        subst this; exact ⟨hlt, by omega, by omega, h7⟩⟩, by exact qle, by simp; omega⟩
theorem aJd {n : Nat} {c : Cmt} (hn : n ≤ 1048576) (hm : c.1.length ≤ maxLen) (hm2 : c.2.length ≤ maxLen) (hk : ∀ e ∈ c.2, e.1.size ≤ maxLen) : AC Tryz.prog 130 [yI c, .v (.int .i64 ((n : Int) + 1))] ⟨.v (.bool (aBL n c)), []⟩ := by
 have hp := aH7 (ps := c.1) hn hm
 unfold aBL
 cases hb : aAj n c.1 with
 | false =>
  rw [hb] at hp
  rw [Bool.and_false]
  refine qrf Tryz.func130 Tryz.ntmps130 Tryz.results130 ?_; conv => whnf
  repeat ((first | refine qz ?_ | refine qc (hp) ?_); conv => whnf)
  exact xA rfl trivial
 | true =>
  rw [hb] at hp
  rw [Bool.and_true]
  refine qrf Tryz.func130 Tryz.ntmps130 Tryz.results130 ?_; conv => whnf
  repeat ((first | refine qz ?_ | refine qc (hp) ?_ | refine qc (aBQ hm2 hk) ?_); conv => whnf)
  exact xA rfl trivial
theorem aIw {cs : List Cmt} (hn : cs.length ≤ maxLen) (hc : ∀ c ∈ cs, c.1.length ≤ maxLen ∧ c.2.length ≤ maxLen ∧ ∀ e ∈ c.2, e.1.size ≤ maxLen) : AC Tryz.prog 108 [.lst 2 (cs.map yI)] ⟨.v (.bool (decide (cs.length ≤ 60) && jR 0 cs)), []⟩ := by
 have hn' := hn
 unfold maxLen at hn'
 by_cases hin : cs.length ≤ 60
 case neg =>
  have : decide (cs.length ≤ 60) = false := by simpa using hin
  rw [this, Bool.false_and]
  refine qrf Tryz.func108 Tryz.ntmps108 Tryz.results108 ?_; conv => whnf
  repeat ((refine qz ?_; conv => whnf))
  exact xA rfl trivial
 have : decide (cs.length ≤ 60) = true := by simpa using hin
 rw [this, Bool.true_and]
 refine qrf Tryz.func108 Tryz.ntmps108 Tryz.results108 ?_; conv => whnf
 repeat ((refine qz ?_; conv => whnf))
 refine xX (ι := { k : Nat // k ≤ cs.length ∧ jR k (cs.drop k) = jR 0 cs }) (fun k => ⟨[(8, .lst 2 (cs.map yI)), (9, .v (.int .i64 (cs.length : Int))), (10, .v (.int .i64 (k.1 : Int)))], []⟩) (fun k => cs.length - k.1) ⟨0, Nat.zero_le _, rfl⟩ (by exact qle) ?_
 rintro ⟨k, hk', hd⟩
 dsimp only at hk' hd ⊢
 conv => whnf
 by_cases hlt : k < cs.length
 case neg =>
  rw [← hd, List.drop_eq_nil_of_le (by omega)]
  repeat ((refine qz ?_; conv => whnf))
  exact xA rfl trivial
 obtain ⟨q1, q2, q3⟩ := hc _ (List.getElem_mem hlt)
 rw [aEk hlt] at hd
 have hac := aJd (n := k) (c := cs[k]) (by omega) q1 q2 q3
 cases hb : aBL k cs[k] with
 | false =>
  rw [hb, Bool.false_and] at hd
  rw [hb] at hac
  rw [← hd]
  repeat (first | (refine qz ?_; conv => whnf) | (refine qc (hac) ?_; conv => whnf) | (refine qr (xS rfl rfl rfl rfl rfl (by conv => lhs; whnf) rfl) ?_; conv => whnf))
  exact xA rfl trivial
 | true =>
  rw [hb, Bool.true_and] at hd
  rw [hb] at hac
  repeat (first | (refine qz ?_; conv => whnf) | (refine qc (hac) ?_; conv => whnf) | (refine qr (xS rfl rfl rfl rfl rfl (by conv => lhs; whnf) rfl) ?_; conv => whnf))
  exact ⟨⟨k + 1, hlt, hd⟩, by exact qle, by simp; omega⟩
theorem aJN {cs : List Cmt} (hn : cs.length ≤ maxLen) (hc : ∀ c ∈ cs, c.1.length ≤ maxLen ∧ c.2.length ≤ maxLen ∧ ∀ e ∈ c.2, e.1.size ≤ maxLen) : AC Tryz.prog 76 [.lst 2 (cs.map yI)] ⟨.v (.bool (yx cs)), []⟩ := by
 have hn' := hn
 unfold maxLen at hn'
 unfold yx
 by_cases h0 : 1 ≤ cs.length
 · have : decide (1 ≤ cs.length ∧ cs.length ≤ 60) = decide (cs.length ≤ 60) := by simp [h0]
   rw [this]
   refine qrf Tryz.func76 Tryz.ntmps76 Tryz.results76 ?_; conv => whnf
   repeat ((first | refine qz ?_ | refine qc (aIw hn hc) ?_); conv => whnf)
   exact xA rfl trivial
 · have : decide (1 ≤ cs.length ∧ cs.length ≤ 60) = false := by simp [h0]
   rw [this, Bool.false_and]
   refine qrf Tryz.func76 Tryz.ntmps76 Tryz.results76 ?_; conv => whnf
   repeat ((refine qz ?_; conv => whnf))
   exact xA rfl trivial
end Go.Proofs.YtkfllfhcjegfoaaGreatDoor.AM
