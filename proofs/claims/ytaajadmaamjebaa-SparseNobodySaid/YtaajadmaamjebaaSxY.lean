/- The page's example out of the contracts of a sparse index. -/
import Derived.Test.YtaajadmaamjebaaSxX
namespace Go.Proofs.Ytaajadmaamjebaa
open Go.RowKit

def h7 : List UInt8 := 7 :: List.replicate 31 0
theorem h7_len : h7.length = 32 := rfl
theorem built_fp7 : Try.prog.built 47 [(0, .int .u8 7)] = some (fpA h7) := by kernel_rfl
theorem fps_oneS {l : List UInt8} (h32 : l.length = 32) {w : World} {b : Nat} {F : Array Value} {T : TypeId} {fr : Nat × Nat} (hF : F = fpA l) (hr : w.heap[b]? = some (.cells F T fr)) : FpsAt 32 [l] (.slice (some ⟨b, 0, none⟩) 1 1) w := by
  refine ⟨fun x hx => by rw [List.mem_singleton.1 hx]; exact h32, some ⟨b, 0, none⟩, 1, rfl, Or.inr ⟨b, 0, rfl, fun i hi j hj => ?_⟩⟩
  have hi0 : i = 0 := by simpa using hi
  subst hi0
  rw [cell_of_row _ _ _ _ _ _ hr, hF]
  have := fpA_get l j (by omega)
  rw [show 0 + (0 * 32 + j) = j by omega]
  exact this
theorem fps_off {l : List UInt8} {w : World} {b : Nat} {F : Array Value} {T : TypeId} {fr : Nat × Nat} {Bs : Nat → Prop} (hr : w.heap[b]? = some (.cells F T fr)) (h32 : l.length = 32) (hb : ¬ Bs b) (hF : F = fpA l) : FpsOff Bs [l] (.slice (some ⟨b, 0, none⟩) 1 1) w := fun _ _ hW =>
  fps_oneS h32 hF ((hW b (Array.getElem?_eq_some_iff.1 hr).1 hb).trans hr)

/-- An index, and a hook in a block of its own. -/
structure AwS (w0 : World) (bh : Nat) (F : Array Value) (P : List SRow → (Nat → Prop) → World → Prop) (R : List SRow) (Bs : Nat → Prop) (w : World) : Prop where
  p : P R Bs w
  row : w.heap[bh]? = some (.cells F 47 (0, 0))
  off : ¬ Bs bh
  kept : Kept w0 w
  low : ∀ m, Bs m → w0.heap.size ≤ m
section
variable {B : Nat} {w0 w w' : World} {x : Value} {bh : Nat} {F : Array Value} {per most : Int} {P : List SRow → (Nat → Prop) → World → Prop} {Bs : Nat → Prop} {R R' : List SRow}
theorem AwS.later (D : IdxOk B x per most P) (h : AwS w0 bh F P R Bs w) (k : Kept w w') : AwS w0 bh F P R Bs w' := ⟨D.kept h.p k, k.row h.row, h.off, h.kept.then k, h.low⟩
theorem AwS.prog (_ : IdxOk B x per most P) (h : AwS w0 bh F P R Bs w) (hp : XPost P Bs R' w w') : ∃ Bs', AwS w0 bh F P R' Bs' w' := by
  obtain ⟨⟨Bs', h1, h2⟩, hb⟩ := hp
  have hg := (Array.getElem?_eq_some_iff.1 h.row).1
  refine ⟨Bs', h1, (hb.block bh hg h.off).trans h.row, fun e => ?_, ButBy.kept hb (fun m hm => h.low m hm) h.kept h.kept.size, fun m hm => ?_⟩
  · rcases h2 bh e with y | y
    · exact h.off y
    · omega
  · rcases h2 m hm with z | z
    · exact h.low m z
    · exact Nat.le_trans h.kept.size z
end
def AwakeS : Prop := ∀ w, Calls Try.prog 8 #[] w fun e w' => e = .returned (.bool true) ∧ Kept w w'
def R1 : List SRow := [(h7, [1])]
def R2 : List SRow := [(h7, [2, 1])]
def R3 : List SRow := [(h7, [3, 2])]
def R4 : List SRow := [(h7, [2])]

set_option maxRecDepth 100000 in
set_option maxHeartbeats 32000000 in
theorem awakeS_of (CN : NewIdx) : AwakeS := by
  intro w
  have CN0 := CN 2 10 w (by decide) (by decide)
  obtain ⟨ti, ht1, ht2, ht3, tz, ht4, ht5⟩ := info_fp
  have HTI : Hid (Try.prog.info? 47 = some ti ∧ ti.size = 32 ∧ ti.zero = some tz) := Lib.hid ⟨ht1, ht2, ht4⟩
  obtain ⟨F, hF⟩ : ∃ F, F = fpA h7 := ⟨_, rfl⟩
  have HFE := Lib.hid hF
  have HF32 : Hid (0 + 32 ≤ F.size ∧ F.extract 0 (0 + 32) = F ∧ F.size = 32 ∧ F.all (·.oneCell') = true) := Lib.hid (by
    have hs : F.size = 32 := by rw [hF, fpA_size, h7_len]
    refine ⟨by omega, ?_, hs, by rw [hF]; exact fpA_one _⟩
    rw [show 0 + 32 = F.size by omega]
    exact Array.extract_size)
  have HXI : Hid ((Try.prog.info? 47).map (·.size) = some F.size) := Lib.hid (by rw [HF32.out.2.2.1]; exact infoFp)
  have HBF : Hid (Try.prog.built 47 [(0, .int .u8 7)] = some F) := Lib.hid (by rw [hF]; exact built_fp7)
  have HP1 : Hid (putS 2 10 1 [] [h7] = R1) := Lib.hid (by decide +kernel)
  have HP2 : Hid (putS 2 10 2 R1 [h7] = R2) := Lib.hid (by decide +kernel)
  have HP3 : Hid (putS 2 10 3 R2 [h7] = R3) := Lib.hid (by decide +kernel)
  have HP4 : Hid (lookS R3 h7 = R3 ∧ peekS R3 h7 = [3, 2]) := Lib.hid ⟨by decide +kernel, by decide +kernel⟩
  have HP5 : Hid (dropS 3 R3 = R4 ∧ lenS R3 = 2 ∧ lenS R4 = 1) := Lib.hid ⟨by decide +kernel, by decide +kernel, by decide +kernel⟩
  have HOK1 : Hid (OkI 2 10 R1) := Lib.hid (by rw [← HP1.out]; exact (OkI.nil (by decide) (by decide)).put (by decide) (fun k hk => by rw [List.mem_singleton.1 hk]; rfl))
  have HOK2 : Hid (OkI 2 10 R2) := Lib.hid (by rw [← HP2.out]; exact HOK1.out.put (by decide) (fun k hk => by rw [List.mem_singleton.1 hk]; rfl))
  have HOK3 : Hid (OkI 2 10 R3) := Lib.hid (by rw [← HP3.out]; exact HOK2.out.put (by decide) (fun k hk => by rw [List.mem_singleton.1 hk]; rfl))
  have HOK4 : Hid (OkI 2 10 R4) := Lib.hid (by rw [← HP5.out.1]; exact HOK3.out.drop 3)
  clear ht1 ht2 ht3 ht4 ht5 hF CN
  go_enter Try.func8, Try.ntmps8
  go_wp2_with fail
  refine CN0.mono ?_
  rintro e w1 ⟨hk1, h⟩
  rcases h with ⟨hno, -⟩ | ⟨-, ad, P, Bsw1, rfl, D, hp⟩
  · exact absurd ⟨⟨by decide, by decide⟩, by decide, by decide⟩ hno
  have HK1 : Hid (Kept w w1) := Lib.hid hk1
  have HPW := Lib.hid hp
  obtain ⟨W2, hW2⟩ : ∃ W, W = w1.alloc (.cells F 47) := ⟨_, rfl⟩
  have HW2 := Lib.hid hW2
  obtain ⟨bh, hbh⟩ : ∃ b, b = w1.heap.size := ⟨_, rfl⟩
  have HBH := Lib.hid hbh
  have hk2 : Kept w1 W2 := by rw [hW2]; exact box_below _ _
  obtain ⟨BsW2, hbs⟩ : ∃ B : Nat → Prop, B = Bsw1 := ⟨_, rfl⟩
  have HAW2 : Hid (AwS w bh F P [] BsW2 W2) := Lib.hid ⟨by rw [hbs]; exact D.kept hp hk2, by rw [hW2, hbh]; exact heap_alloc_last w1 _, fun e => by rw [hbs] at e; have := (D.above _ _ _ hp _ e).2; omega, hk1.then hk2, fun m hm => by rw [hbs] at hm; exact (D.above _ _ _ hp m hm).1⟩
  clear hk1 hp hW2 hbh hk2 hbs CN0 HPW
  go_wp2_with (first
    | (with_reducible refine wpList_built rfl _ _ rfl [(0, .int .u8 7)] ?hps F HBF.out ?_)
    | (with_reducible refine wpList_store_row rfl _ _ _ rfl w1.heap.size F rfl rfl 47 _ (heap_alloc_last w1 _) HXI.out ?hold HF32.out.2.2.2 ?_; rotate_left; rw [World.setRow_alloc_new, ← HW2.out])
    | (with_reducible refine wpList_halt (d := 17) rfl ?_))
  try case hps => rfl
  case hold => rw [HF32.out.2.2.1]; rfl
  unfold Halted
  rw [← HBH.out]
  obtain ⟨W3, hW3⟩ : ∃ W, W = W2.alloc (.cells F 47) := ⟨_, rfl⟩
  have HW3 := Lib.hid hW3
  have hkk : Kept W2 W3 := by rw [hW3]; exact box_below _ _
  have HAW3 := Lib.hid (HAW2.out.later D hkk)
  have hrr : W3.heap[W2.heap.size]? = some (.cells F 47 (0, 0)) := by rw [hW3]; exact heap_alloc_last W2 _
  have hnb : ¬ BsW2 W2.heap.size := fun e => by have := (D.above _ _ _ HAW2.out.p _ e).2; omega
  have CP1 := D.put [] BsW2 W3 1 [h7] (.slice (some ⟨W2.heap.size, 0, none⟩) 1 1) HAW3.out.p (OkI.nil (by decide) (by decide)) (by decide) (by decide) (fps_off hrr h7_len hnb HFE.out)
  rw [HP1.out] at CP1
  have hrow := HAW2.out.row
  clear hW3 hkk hrr hnb
  go_wp2_with (first
    | (with_reducible refine wpList_load_sub rfl _ _ rfl bh 0 32 rfl 47 F (0, 0) _ hrow Try.underlying47 rfl infoFp HF32.out.1 F HF32.out.2.1 ?_)
    | (with_reducible refine wpList_buildR rfl _ _ _ rfl 32 ti tz Try.underlying34 HTI.out.1 HTI.out.2.1 HTI.out.2.2 (by decide) (by decide) F rfl HF32.out.2.2.1 ?_; rw [← HW3.out]))
  refine CP1.mono ?_
  rintro e W4 ⟨rfl, hx⟩
  obtain ⟨BsW4, ha⟩ := HAW3.out.prog D hx
  have HAW4 := Lib.hid ha
  clear hx ha CP1 hrow
  obtain ⟨W5, hW5⟩ : ∃ W, W = W4.alloc (.cells F 47) := ⟨_, rfl⟩
  have HW5 := Lib.hid hW5
  have hkk : Kept W4 W5 := by rw [hW5]; exact box_below _ _
  have HAW5 := Lib.hid (HAW4.out.later D hkk)
  have hrr : W5.heap[W4.heap.size]? = some (.cells F 47 (0, 0)) := by rw [hW5]; exact heap_alloc_last W4 _
  have hnb : ¬ BsW4 W4.heap.size := fun e => by have := (D.above _ _ _ HAW4.out.p _ e).2; omega
  have CP2 := D.put R1 BsW4 W5 2 [h7] (.slice (some ⟨W4.heap.size, 0, none⟩) 1 1) HAW5.out.p HOK1.out (by decide) (by decide) (fps_off hrr h7_len hnb HFE.out)
  rw [HP2.out] at CP2
  have hrow := HAW4.out.row
  clear hW5 hkk hrr hnb
  go_wp2_with (first
    | (with_reducible refine wpList_load_sub rfl _ _ rfl bh 0 32 rfl 47 F (0, 0) _ hrow Try.underlying47 rfl infoFp HF32.out.1 F HF32.out.2.1 ?_)
    | (with_reducible refine wpList_buildR rfl _ _ _ rfl 32 ti tz Try.underlying34 HTI.out.1 HTI.out.2.1 HTI.out.2.2 (by decide) (by decide) F rfl HF32.out.2.2.1 ?_; rw [← HW5.out]))
  refine CP2.mono ?_
  rintro e W6 ⟨rfl, hx⟩
  obtain ⟨BsW6, ha⟩ := HAW5.out.prog D hx
  have HAW6 := Lib.hid ha
  clear hx ha CP2 hrow
  obtain ⟨W7, hW7⟩ : ∃ W, W = W6.alloc (.cells F 47) := ⟨_, rfl⟩
  have HW7 := Lib.hid hW7
  have hkk : Kept W6 W7 := by rw [hW7]; exact box_below _ _
  have HAW7 := Lib.hid (HAW6.out.later D hkk)
  have hrr : W7.heap[W6.heap.size]? = some (.cells F 47 (0, 0)) := by rw [hW7]; exact heap_alloc_last W6 _
  have hnb : ¬ BsW6 W6.heap.size := fun e => by have := (D.above _ _ _ HAW6.out.p _ e).2; omega
  have CP3 := D.put R2 BsW6 W7 3 [h7] (.slice (some ⟨W6.heap.size, 0, none⟩) 1 1) HAW7.out.p HOK2.out (by decide) (by decide) (fps_off hrr h7_len hnb HFE.out)
  rw [HP3.out] at CP3
  have hrow := HAW6.out.row
  clear hW7 hkk hrr hnb
  go_wp2_with (first
    | (with_reducible refine wpList_load_sub rfl _ _ rfl bh 0 32 rfl 47 F (0, 0) _ hrow Try.underlying47 rfl infoFp HF32.out.1 F HF32.out.2.1 ?_)
    | (with_reducible refine wpList_buildR rfl _ _ _ rfl 32 ti tz Try.underlying34 HTI.out.1 HTI.out.2.1 HTI.out.2.2 (by decide) (by decide) F rfl HF32.out.2.2.1 ?_; rw [← HW7.out]))
  refine CP3.mono ?_
  rintro e W8 ⟨rfl, hx⟩
  obtain ⟨BsW8, ha⟩ := HAW7.out.prog D hx
  have HAW8 := Lib.hid ha
  clear hx ha CP3 hrow
  have CLK := D.look R3 BsW8 W8 h7 HAW8.out.p HOK3.out h7_len
  rw [← HFE.out, HP4.out.1, HP4.out.2] at CLK
  have hrow := HAW8.out.row
  go_wp2_with (with_reducible refine wpList_load_sub rfl _ _ rfl bh 0 32 rfl 47 F (0, 0) _ hrow Try.underlying47 rfl infoFp HF32.out.1 F HF32.out.2.1 ?_)
  refine CLK.mono ?_
  rintro e W9 ⟨⟨v, rfl, hnew⟩, hx⟩
  obtain ⟨BsW9, ha⟩ := HAW8.out.prog D hx
  have HAW9 := Lib.hid ha
  have hus := hnew W9 (fun _ _ _ => rfl)
  obtain ⟨p, c, rfl, hc2, hcl⟩ := hus.out encU
  rcases hcl with h0 | ⟨b, off, rfl, hcell⟩
  · exact absurd h0 (by decide)
  have x0 := hcell 0 (by decide) 0 _ rfl
  have x1 := hcell 1 (by decide) 0 _ rfl
  simp only [Nat.zero_mul, Nat.one_mul, Nat.add_zero, List.getElem_cons_zero, List.getElem_cons_succ] at x0 x1
  have CL := D.len R3 BsW9 W9 HAW9.out.p HOK3.out
  rw [HP5.out.2.1] at CL
  clear hx ha CLK hrow hus hnew hcell
  go_wp2_with fail
  refine CL.mono ?_
  rintro e W10 ⟨rfl, hb⟩
  have HAW10 := Lib.hid (HAW9.out.later D hb)
  have CD := D.drop R3 BsW9 W10 3 HAW10.out.p HOK3.out (by decide)
  rw [HP5.out.1, HP5.out.2.1, HP5.out.2.2] at CD
  clear hb CL x0 x1
  go_wp2_with fail
  refine CD.mono ?_
  rintro e W11 ⟨rfl, hx⟩
  obtain ⟨BsW11, ha⟩ := HAW10.out.prog D hx
  have HAW11 := Lib.hid ha
  have CH := D.hooks R4 BsW11 W11 HAW11.out.p HOK4.out
  clear hx ha CD
  go_wp2_with fail
  refine CH.mono ?_
  rintro e W12 ⟨⟨v, rfl, hv⟩, hb⟩
  obtain ⟨-, p2, c2, rfl, -⟩ := hv
  have HK12 : Hid (Kept w W12) := Lib.hid (HAW11.out.kept.then hb)
  clear hb CH
  go_wp2
  go_ret
  exact ⟨rfl, HK12.out⟩

end Go.Proofs.Ytaajadmaamjebaa
