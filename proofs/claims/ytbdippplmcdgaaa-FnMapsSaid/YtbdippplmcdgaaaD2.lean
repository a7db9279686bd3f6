/- The document's draws of keys and of maps. -/
import Derived.Test.YtbdippplmcdgaaaD1
import Derived.Test.YtbdippplmcdgaaaMdl5
import Derived.Test.YtbdippplmcdgaaaS2
namespace Go.Proofs.Ytbdippplmcdgaaa
open Go.RowKit

def keys8 : List ByteArray := [⟨#[97]⟩, ⟨#[98]⟩, ⟨#[99]⟩, ⟨#[100]⟩, ⟨#[101]⟩, ⟨#[107, 49]⟩, ⟨#[107, 50]⟩, ⟨#[122, 122]⟩]
theorem keys8_nm : (keys8.all fun k => nm k && decide (k.size ≤ 12)) = true := by kernel_rfl
theorem keys8_ok {k : ByteArray} (h : k ∈ keys8) : nm k = true ∧ k.size ≤ 12 := by
  have := List.all_eq_true.1 keys8_nm k h
  simpa using this

set_option maxRecDepth 100000 in
theorem key_any (g : Nat) (A : Option Addr) (n c : Nat) (bs : List UInt8) (a s : Nat) (w : World) (h : Src w g A n c bs a s) (hn : n ≤ maxLen) (ha : a ≤ 1099511627776) :
    Calls Try.prog 49 #[.pointer (some ⟨g, 0, none⟩)] w (SrcPost g A n c bs a 1 (OneOf keys8) w) := by
  have hgl := h.blk.lt
  have hb1 : Below w.heap.size w (w.alloc (.cells #[.string ⟨#[97]⟩, .string ⟨#[98]⟩, .string ⟨#[99]⟩, .string ⟨#[100]⟩, .string ⟨#[101]⟩, .string ⟨#[107, 49]⟩, .string ⟨#[107, 50]⟩, .string ⟨#[122, 122]⟩] 9)) := (Below.refl _ _).alloc (Nat.le_refl _) _
  have h1 := h.below hb1 (Nat.le_refl _)
  have hL : Rd (w.alloc (.cells #[.string ⟨#[97]⟩, .string ⟨#[98]⟩, .string ⟨#[99]⟩, .string ⟨#[100]⟩, .string ⟨#[101]⟩, .string ⟨#[107, 49]⟩, .string ⟨#[107, 50]⟩, .string ⟨#[122, 122]⟩] 9)) 1 (some ⟨w.heap.size, 0, none⟩) 8 (keys8.map .string) :=
    ⟨rfl, fun _ => ⟨_, 0, rfl, by simp, fun j u hu => by
      rw [Nat.zero_add, cell_of_row _ w.heap.size j #[.string ⟨#[97]⟩, .string ⟨#[98]⟩, .string ⟨#[99]⟩, .string ⟨#[100]⟩, .string ⟨#[101]⟩, .string ⟨#[107, 49]⟩, .string ⟨#[107, 50]⟩, .string ⟨#[122, 122]⟩] 9 (0, 0) (heap_alloc_new w _)]
      have e : (#[.string ⟨#[97]⟩, .string ⟨#[98]⟩, .string ⟨#[99]⟩, .string ⟨#[100]⟩, .string ⟨#[101]⟩, .string ⟨#[107, 49]⟩, .string ⟨#[107, 50]⟩, .string ⟨#[122, 122]⟩] : Array Value) = (keys8.map Value.string).toArray := rfl
      rw [e]; simpa using hu⟩⟩
  have Hpick := Lib.hid (pick_any g A n c bs a s (some ⟨w.heap.size, 0, none⟩) 8 8 keys8 _ h1 hn ha (by omega) (by omega) hL (by intro _ b off e; obtain ⟨rfl, _⟩ : w.heap.size = b ∧ 0 = off := (by simpa using e); omega))
  clear hL h1
  go_enter Try.func49, Try.ntmps49
  go_wp2_with fail
  refine Hpick.out.mono ?_
  rintro e w1 ⟨v, a', s', rfl, ⟨t, ht, rfl⟩, hs1, ha1, hg1⟩
  go_wp2
  go_ret
  exact ⟨_, a', s', rfl, ⟨_, ht, rfl⟩, hs1, ha1, grown_trans (grown_of_below hb1 _) hg1⟩

theorem l00Source_any (A : Option Addr) (n c : Nat) (bs : List UInt8) (w : World) (hr : Rd w 1 A n (bs.map fun b => .int .u8 b.toNat)) (hn : n ≤ maxLen) :
    Calls Try.prog 47 #[.slice A n c] w fun e w' => ∃ s, e = .returned (.pointer (some ⟨w.heap.size, 0, none⟩)) ∧ Src w' w.heap.size A n c bs 0 s ∧ Below w.heap.size w w' := by
  unfold maxLen at hn
  have hm : (n : Int).tmod 1000 = ((n % 1000 : Nat) : Int) := by rw [Int.tmod_eq_emod_of_nonneg (by omega)]; rfl
  have hm1 : (0 : Int) ≤ ((n % 1000 : Nat) : Int) := by omega
  go_enter Try.func47, Try.ntmps47
  go_wp2
  go_ret
  have hb1 : Below w.heap.size w (w.alloc (.cells #[.slice A n c, .int .i64 0, .int .i64 ((n % 1000 : Nat) : Int)] 94)) := (Below.refl _ _).alloc (Nat.le_refl _) _
  refine ⟨n % 1000, rfl, ⟨Blk.new _ _ _, hr.below hb1 (Nat.le_refl _), fun hn b off e => ?_, by omega, by have := hr.1; simpa using this⟩, hb1⟩
  obtain ⟨b', off', e', hlt, _⟩ := hr.2 hn
  rw [e] at e'
  obtain ⟨rfl, _⟩ : b = b' ∧ off = off' := (by simpa using e')
  omega

/-- a map as the draws make one: in order, drawn keys, small values -/
def Drawn (es : List Ent) : Prop := Srt es ∧ ∀ e ∈ es, e.1 ∈ keys8 ∧ 0 ≤ e.2 ∧ e.2 < 9
theorem Drawn.nil : Drawn [] := ⟨List.Pairwise.nil, by simp⟩
theorem Drawn.put {es : List Ent} (h : Drawn es) {k : ByteArray} (hk : k ∈ keys8) {v : Int} (h0 : 0 ≤ v) (h1 : v < 9) : Drawn (putL es k v) :=
  ⟨srt_putL h.1 k v, fun e he => by
    rcases mem_putL he with rfl | he
    · exact ⟨hk, h0, h1⟩
    · exact h.2 e he⟩
theorem ordM_of_srt {es : List Ent} (h : Srt es) (hn : ∀ e ∈ es, nm e.1 = true) : ordM es = true := ordM_of fun i hi => by
  rw [ordAt, kAt_eq es i hi, hn _ (List.getElem_mem hi), Bool.true_and]
  rcases Nat.eq_zero_or_pos i with h0 | h0
  · rw [decide_eq_true h0]; rfl
  · have h2 := (List.pairwise_iff_getElem.1 h) (i - 1) i (by omega) hi (by omega)
    rw [kAt_eq es (i - 1) (by omega), h2, Bool.or_true]
theorem Drawn.mapOK {es : List Ent} (h : Drawn es) (hl : es.length ≤ 12) : mapOK es = true :=
  mapOK_of hl fun i hi => by
    have he := h.2 _ (List.getElem_mem hi)
    refine ⟨ordM_at (ordM_of_srt h.1 fun e he => (keys8_ok (h.2 e he).1).1) hi, ?_⟩
    have e1 : valAt es i = valB es[i].2 := by simp [valAt, hi]
    rw [e1, valB, decide_eq_true (by omega), decide_eq_true (by omega)]; rfl

end Go.Proofs.Ytbdippplmcdgaaa
