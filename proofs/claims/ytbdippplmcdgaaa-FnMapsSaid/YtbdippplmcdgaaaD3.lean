/- The document's draw of a map, whole. -/
import Derived.Test.YtbdippplmcdgaaaD2
namespace Go.Proofs.Ytbdippplmcdgaaa
open Go.RowKit

def EntPost (g : Nat) (A : Option Addr) (n c : Nat) (bs : List UInt8) (a : Nat) (w : World) (e : Ending) (w' : World) : Prop :=
  ∃ v es a' s', e = .returned v ∧ Drawn es ∧ es.length ≤ 5 ∧ w'.ownsRow w.heap.size 35 2 v es.length (entsC es) ∧ Src w' g A n c bs a' s' ∧ a' ≤ a + 11 ∧ w.grownBy w' (some g)

theorem own_kept {w w' : World} {base g n sz : Nat} {t : TypeId} {v : Value} {xs : List Value} (h : w.ownsRow base t sz v n xs) (hg : w.grownBy w' (some g)) (hb : g < base) : w'.ownsRow base t sz v n xs := by
  refine h.kept hg ?_
  cases hv : v.ownBlock with
  | none => exact .inl rfl
  | some k => exact .inr (fun e => by have := (h.lt k hv).1; have e2 : k = g := (by simpa using e); omega)

set_option maxHeartbeats 1000000 in
set_option maxRecDepth 100000 in
theorem entries_any (g : Nat) (A : Option Addr) (n c : Nat) (bs : List UInt8) (a s : Nat) (w : World) (h : Src w g A n c bs a s) (hn : n ≤ maxLen) (ha : a ≤ 1099511627000) :
    Calls Try.prog 48 #[.pointer (some ⟨g, 0, none⟩)] w (EntPost g A n c bs a w) := by
  have hgl := h.blk.lt
  have hb1 : Below w.heap.size w (w.alloc (.cells #[] 35)) := (Below.refl _ _).alloc (Nat.le_refl _) _
  have h1 := h.below hb1 (Nat.le_refl _)
  have hst := Lib.hid (World.ownsRow_made (base := w.heap.size) (e := 35) (size := 2) w #[] 0 (Nat.le_refl _) (by simp) (by simp))
  have Hnext := Lib.hid (next_any g A n c bs a s 6 _ h1 hn (by omega) (by omega) (by omega))
  clear h1
  go_enter Try.func48, Try.ntmps48
  go_wp2_with fail
  refine Hnext.out.mono ?_
  rintro e w1 ⟨v, a1, s1, rfl, ⟨k0, rfl, hk0⟩, hs1, ha1, hg1⟩
  have Hown1 := Lib.hid (own_kept hst.out hg1 hgl)
  have hg01 := grown_trans (grown_of_below hb1 (some g)) hg1
  go_wp2
  go_loopw [3, 4] (fun mv i wr => ∃ (k : Nat) (es : List Ent) (a' s' : Nat), k ≤ 5 ∧ i = .int .i64 k ∧ Drawn es ∧ es.length + k ≤ 5 ∧ wr.ownsRow w.heap.size 35 2 mv es.length (entsC es) ∧ Src wr g A n c bs a' s' ∧ a' + 2 * k ≤ a + 11 ∧ w.grownBy wr (some g)) (fun _ i _ => (intOf i).toNat)
  case atStart => exact ⟨k0, [], a1, s1, by omega, rfl, Drawn.nil, by simp; omega, Hown1.out, hs1, by omega, hg01⟩
  case round =>
    obtain ⟨k, es, a', s', hk, rfl, hdr, hlen, hown, hsrc, ha', hgw⟩ := hrel
    have Hown := Lib.hid hown; clear hown
    have Hdr := Lib.hid hdr; clear hdr
    by_cases h0 : 0 < k
    · have h0' : (0 : Int) < (k : Int) := by omega
      go_wp2_with fail
      refine (key_any g A n c bs a' s' _ hsrc hn (by omega)).mono ?_
      rintro e w2 ⟨v, a2, s2, rfl, ⟨t, ht, rfl⟩, hs2, ha2, hg2⟩
      have Hown2 := Lib.hid (own_kept Hown.out hg2 hgl); clear Hown
      have hgw2 := grown_trans hgw hg2
      go_wp2_with fail
      refine (next_any g A n c bs a2 s2 9 _ hs2 hn (by omega) (by omega) (by omega)).mono ?_
      rintro e w3 ⟨v, a3, s3, rfl, ⟨r, rfl, hr⟩, hs3, ha3, hg3⟩
      have Hown3 := Lib.hid (own_kept Hown2.out hg3 hgl); clear Hown2
      have hgw3 := grown_trans hgw2 hg3
      obtain ⟨A3, c3, rfl, _, _, hrd3⟩ := Rd.of_own Hown3.out
      go_wp2_with fail
      refine (l01Put_any A3 _ c3 es t r _ hrd3 (by omega)).mono ?_
      rintro e w4 ⟨v4, rfl, ho4, hb4⟩
      have Ho4 := Lib.hid (ownsRow_base ho4 hgw3.size); clear ho4
      have hgw4 := grown_then hgw3 hb4
      have hs4 := hs3.below hb4 (Nat.le_refl _)
      have hd4 := Hdr.out.put ht (v := (r : Int)) (by omega) (by omega)
      have hl4 := putL_length es t (r : Int)
      go_wp2
      go_roundw
      case rel => exact ⟨k - 1, _, a3, s3, by omega, by go_num, hd4, by omega, Ho4.out, hs4, by omega, hgw4⟩
      case measure => simp [intOf]; omega
    · have hk0 : k = 0 := by omega
      subst hk0
      go_wp2
      go_ret
      exact ⟨_, es, a', s', rfl, Hdr.out, by omega, Hown.out, hsrc, by omega, hgw⟩

/-- a draw's own source is new memory: all that was there is as it was -/
theorem below_of_new {w w1 w' : World} (hb : Below w.heap.size w w1) (hg : w1.grownBy w' (some w.heap.size)) : Below w.heap.size w w' :=
  hb.grown hg hb.size fun k hk => by have : w.heap.size = k := (by simpa using hk); omega

set_option maxRecDepth 100000 in
theorem EntriesDrawn_any (A : Option Addr) (n c : Nat) (bs : List UInt8) (w : World) (hr : Rd w 1 A n (bs.map fun b => .int .u8 b.toNat)) (hn : n ≤ maxLen) :
    Calls Try.prog 14 #[.slice A n c] w fun e w' => ∃ v es, e = .returned v ∧ Drawn es ∧ es.length ≤ 5 ∧ w'.ownsRow w.heap.size 35 2 v es.length (entsC es) ∧ Below w.heap.size w w' := by
  go_enter Try.func14, Try.ntmps14
  go_wp2_with fail
  refine (l00Source_any A n c bs w hr hn).mono ?_
  rintro e w1 ⟨s, rfl, hs1, hb1⟩
  go_wp2_with fail
  refine (entries_any w.heap.size A n c bs 0 s w1 hs1 hn (by omega)).mono ?_
  rintro e w2 ⟨v, es, a', s', rfl, hd, hl, ho, hs2, _, hg2⟩
  go_wp2
  go_ret
  exact ⟨_, es, rfl, hd, hl, ownsRow_base ho hb1.size, below_of_new hb1 hg2⟩

set_option maxRecDepth 100000 in
theorem KeyDrawn_any (A : Option Addr) (n c : Nat) (bs : List UInt8) (w : World) (hr : Rd w 1 A n (bs.map fun b => .int .u8 b.toNat)) (hn : n ≤ maxLen) :
    Calls Try.prog 15 #[.slice A n c] w fun e w' => ∃ t ∈ keys8, e = .returned (.string t) ∧ Below w.heap.size w w' := by
  go_enter Try.func15, Try.ntmps15
  go_wp2_with fail
  refine (l00Source_any A n c bs w hr hn).mono ?_
  rintro e w1 ⟨s, rfl, hs1, hb1⟩
  go_wp2_with fail
  refine (key_any w.heap.size A n c bs 0 s w1 hs1 hn (by omega)).mono ?_
  rintro e w2 ⟨v, a', s', rfl, ⟨t, ht, rfl⟩, hs2, _, hg2⟩
  go_wp2
  go_ret
  exact ⟨t, ht, rfl, below_of_new hb1 hg2⟩

end Go.Proofs.Ytbdippplmcdgaaa
