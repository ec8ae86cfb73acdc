/- The walk of awake: the page's example, read again. -/
import Derived.Test.YtpicaiikejohaaaRows
import Derived.Test.YtpicaiikejohaaaPlain
import Derived.Test.YtpicaiikejohaaaNum
import Derived.Test.YtpicaiikejohaaaBuild
import Derived.Test.YtpicaiikejohaaaReader
import Derived.Test.YtpicaiikejohaaaRList
import Derived.WalkKit
import Derived.WalkSpells
import Derived.WalkLawsBesides
import Derived.Lib.Hide
namespace Go.Proofs.Ytpicaiikejohaaa
open Go.RowKit

theorem aw_u16 (w : World) : Calls Try.prog 10 #[.int .u16 258] w fun e w' => e = .returned (.string ⟨#[2, 1]⟩) ∧ Below w.heap.size w w' := u16_any 258 (by decide) (by decide) w
theorem aw_text (w : World) : Calls Try.prog 14 #[.string ⟨#[97, 98]⟩] w fun e w' => e = .returned (.string ⟨#[2, 0, 0, 0, 97, 98]⟩) ∧ Below w.heap.size w w' := text_any ⟨#[97, 98]⟩ (by decide) w
theorem aw_list (w : World) (v : Value) (hv : StrAt [⟨#[120]⟩, ⟨#[]⟩] v w) : Calls Try.prog 16 #[v] w fun e w' => e = .returned (.string ⟨#[2, 0, 0, 0, 1, 0, 0, 0, 120, 0, 0, 0, 0]⟩) ∧ Below w.heap.size w w' := list_any _ v w hv (by decide)
theorem aw_fill (w : World) : Calls Try.prog 33 #[.string ⟨#[97]⟩, .int .i64 3] w fun e w' => e = .returned (.string ⟨#[97, 0, 0]⟩) ∧ Below w.heap.size w w' := fill_any ⟨#[97]⟩ 3 (by decide) w

def aw0 : List UInt8 := [2, 1, 2, 0, 0, 0, 97, 98, 2, 0, 0, 0, 1, 0, 0, 0, 120, 0, 0, 0, 0]
def aw1 : List UInt8 := [2, 0, 0, 0, 97, 98, 2, 0, 0, 0, 1, 0, 0, 0, 120, 0, 0, 0, 0]
def aw2 : List UInt8 := [2, 0, 0, 0, 1, 0, 0, 0, 120, 0, 0, 0, 0]

theorem aw_r16 (b : Nat) (w : World) (h : RdAt b (aw0, 0) w) : Calls Try.prog 20 #[.pointer (some ⟨b, 0, none⟩)] w (RdPost b (.int .u16 258) (aw1, 0) w) := u16r_any b _ w h (by decide)
theorem aw_rtext (b : Nat) (w : World) (h : RdAt b (aw1, 0) w) : Calls Try.prog 23 #[.pointer (some ⟨b, 0, none⟩)] w (RdPost b (.string ⟨#[97, 98]⟩) (aw2, 0) w) := textr_any b _ w h (by decide)
theorem aw_rlist (b : Nat) (w : World) (h : RdAt b (aw2, 0) w) : Calls Try.prog 25 #[.pointer (some ⟨b, 0, none⟩)] w fun e w' => ∃ g o c, e = .returned (.slice (some ⟨g, o, none⟩) 2 c) ∧ w'.cell? ⟨g, o, none⟩ = some (.string ⟨#[120]⟩) ∧ RdAt b ([], 0) w' ∧ w.grownBy w' (some b) := by
  refine (listr_any b _ w h (by decide)).mono ?_
  rintro e w' ⟨v, rfl, ⟨p, c, rfl, hc⟩, h1, h2⟩
  have e1 : (listR (aw2, 0)).1.map str = [⟨#[120]⟩, ⟨#[]⟩] := by decide
  have e2 : (listR (aw2, 0)).2 = ([], 0) := by decide
  rw [e1] at hc ⊢
  rw [e2] at h1
  rcases hc with h | ⟨g, off, rfl, hc⟩
  · cases h
  · exact ⟨g, off, c, rfl, hc 0 (by decide), h1, h2⟩

theorem aw_strs (w : World) (n : Nat) : StrAt [⟨#[120]⟩, ⟨#[]⟩] (.slice (some ⟨w.heap.size, 0, none⟩) 2 n) (w.alloc (.cells #[.string ⟨#[120]⟩, .string ⟨#[]⟩] 9)) := by
  refine ⟨_, n, rfl, Or.inr ⟨_, _, rfl, fun i hi => ?_⟩⟩
  rw [World.cell?_alloc_mark]
  match i, hi with
  | 0, _ => rfl
  | 1, _ => rfl

set_option maxHeartbeats 1000000 in
theorem awake_any (w : World) : Calls Try.prog 8 #[] w (LawPost w) := by
  go_enter Try.func8, Try.ntmps8
  go_wp2_with (go_at_call 10; refine (aw_u16 _).mono ?_)
  rintro e w1 ⟨rfl, hb1⟩
  go_wp2_with (go_at_call 14; refine (aw_text _).mono ?_)
  rintro e w2 ⟨rfl, hb2⟩
  have K2 := Below.then' hb1 hb2 hb1.size
  clear hb1 hb2
  go_wp2_with (go_at_call 16; refine (aw_list _ _ ?_).mono ?_)
  · exact aw_strs _ _
  rintro e w3 ⟨rfl, hb3⟩
  have K3 := Below.then' (K2.alloc K2.size _) hb3 (by have := K2.size; simp; omega)
  clear hb3 K2
  go_wp2_with (go_at_call 18; refine (read_any _ _).mono ?_)
  rintro e w4 ⟨rfl, R4, hb4⟩
  have R5 : RdAt w3.heap.size (aw0, 0) w4 := R4
  have hlt := R5.lt
  have hge := K3.size
  have K4 := Below.then' K3 hb4 K3.size
  clear hb4 K3 R4
  obtain ⟨b, hbb⟩ : ∃ b, w3.heap.size = b := ⟨_, rfl⟩
  rw [hbb] at R5 hlt hge ⊢
  clear hbb
  go_wp2_with (go_at_call 20; refine (aw_r16 b _ R5).mono ?_)
  rintro e w5 ⟨rfl, R6, hg5⟩
  have K5 := below_touch K4 hg5 K4.size hge
  clear R5 K4 hg5 hlt
  go_wp2_with (go_at_call 23; refine (aw_rtext b _ R6).mono ?_)
  rintro e w6 ⟨rfl, R7, hg6⟩
  have K6 := below_touch K5 hg6 K5.size hge
  clear R6 K5 hg6
  go_wp2_with (go_at_call 25; refine (aw_rlist b _ R7).mono ?_)
  rintro e w7 ⟨g, o, c, rfl, hc7, R8, hg7⟩
  have K7 := below_touch K6 hg7 K6.size hge
  clear R7 K6 hg7
  go_wp2_with (go_at_call 10; refine (aw_u16 _).mono ?_)
  rintro e w8 ⟨rfl, hb8⟩
  have R9 := R8.later (grown_below hb8 none) (by simp)
  have hc8 := cell_later hb8 hc7
  have K8 := Below.then' K7 hb8 K7.size
  clear R8 hc7 K7 hb8
  have L9 := left_any b _ _ R9
  have E9 := err_any b _ _ R9
  have D9 := end_any b _ _ R9
  have F9 := aw_fill w8
  have HR := Lib.hid R9
  have HK := Lib.hid K8
  clear R9 K8
  simp only [List.length_nil, endR, ne_eq, not_true_eq_false, and_false, if_false] at L9 E9 D9
  go_wp2_with (first
    | (go_at_call 28; refine L9.mono ?_; rintro e w' ⟨rfl, rfl⟩)
    | (go_at_call 30; refine E9.mono ?_; rintro e w' ⟨rfl, rfl⟩)
    | (go_at_call 26; refine D9.mono ?_; rintro e w' ⟨rfl, rfl⟩)
    | (go_at_call 33; refine F9.mono ?_; rintro e w9 ⟨rfl, hb9⟩))
  go_ret
  exact ⟨rfl, Below.then' HK.out hb9 HK.out.size⟩

end Go.Proofs.Ytpicaiikejohaaa
