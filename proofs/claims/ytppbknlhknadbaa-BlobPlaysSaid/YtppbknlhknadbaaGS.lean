/- The landed blob's contracts by their names; the law BlobNobody out of them. The walks of the four laws out of the contracts of the landed code. -/
import Derived.Test.YtppbknlhknadbaaBmC
import Derived.Test.YtppbknlhknadbaaGP
import Derived.Test.YtppbknlhknadbaaGF
import Derived.Test.YtppbknlhknadbaaBlV
import Derived.Test.YtppbknlhknadbaaBlK
import Derived.Test.YtppbknlhknadbaaGI
namespace Go.Proofs.Ytppbknlhknadbaa
open Go.RowKit

theorem bmayOk : XMayOk := fun l v w a b h hl ha hb => emay_any l v w a b h (by omega) ha hb
theorem bcountOk : XCountOk := fun l v w h hl => ecount_any l v w h (by omega)
theorem bcommonOk : XCommonOk := fun la lb u v w ha hb hla hlb => (ecommon_any la lb u v w ha hb (by omega) (by omega)).mono fun _ _ ⟨x, he, ho, hk⟩ => ⟨x, he, ho.at_ (runsA_wf _), hk⟩
theorem bfitOk : BFitOk := bfit_of bmayOk bcountOk
theorem beachOk : BEachOk := beach_of bmayOk
theorem bputOk : BPutOk := bput_any beachOk bfitOk
theorem bgetOk : BGetOk := bget_any beachOk bfitOk
theorem bcopyOk : BCopyOk := bcopy_any bcommonOk bfitOk bputOk bgetOk

set_option maxRecDepth 100000 in
set_option maxHeartbeats 4000000 in
theorem blobNobody_landed (w : World) (v : Value) (l : List (Int × Int)) (hv : RunsAt l v w) (t : ByteArray) (ht : t.size ≤ maxLen) :
    Calls Try.prog 6 #[v, .string t] w (LawPost w) := by
  obtain ⟨p, n, c, hn, hl, -, hf⟩ := few12_slice l v w hv
  have FW := hf w hv
  have h20 : (l.take 20).length ≤ 65536 := by rw [List.length_take]; omega
  have HAW := Lib.hid (fun W => bawake_of newDisk bputOk bgetOk W)
  have NP := fun W (k : Kept w W) => bput_nil bfitOk (l.take 20) (.slice p n c) t W (hl.later k) h20 ht
  have NG := fun W (k : Kept w W) => bget_nil bfitOk (l.take 20) (.slice p n c) t.size W (hl.later k) h20 (by unfold I64; simp only [maxLen] at ht; omega)
  have NC := fun W (k : Kept w W) => bcopy_nil bfitOk bcommonOk (l.take 20) (.slice p n c) 1 W (hl.later k) h20 (by unfold I64; omega)
  obtain ⟨q, d, rfl, -, -⟩ := hv.out
  obtain ⟨nl, hnl⟩ : ∃ nl, nl = l.length := ⟨_, rfl⟩
  rw [← hnl] at FW ⊢
  have HNP := Lib.hid NP
  have HNG := Lib.hid NG
  have HNC := Lib.hid NC
  clear hn hl hf hv hnl NP NG NC h20 ht
  go_enter Try.func6, Try.ntmps6
  go_wp2_with fail
  refine FW.mono ?_
  rintro e w1 ⟨rfl, hw1⟩
  subst hw1
  clear FW
  go_wp2_with fail
  refine (HNG.out _ (Kept.refl w)).mono ?_
  rintro e w2 ⟨rfl, hb2⟩
  have HK2 := Lib.hid hb2
  clear hb2 HNG
  go_wp2_with fail
  refine (HNP.out _ HK2.out).mono ?_
  rintro e w3 ⟨rfl, hb3⟩
  have HK3 : Hid (Kept w w3) := Lib.hid ((show Kept w w2 from HK2.out).then hb3)
  clear hb3 HK2 HNP
  go_wp2_with fail
  refine (HNC.out _ HK3.out).mono ?_
  rintro e w4 ⟨rfl, hb4⟩
  have HK4 : Hid (Kept w w4) := Lib.hid ((show Kept w w3 from HK3.out).then hb4)
  clear hb4 HK3 HNC
  go_wp2_with fail
  refine (HAW.out _).mono ?_
  rintro e w5 ⟨rfl, hb5⟩
  have HK5 : Hid (Kept w w5) := Lib.hid ((show Kept w w4 from HK4.out).then hb5)
  clear hb5 HK4 HAW
  go_wp2
  go_ret
  exact ⟨rfl, HK5.out⟩

end Go.Proofs.Ytppbknlhknadbaa
namespace Go.Proofs.Ytppbknlhknadbaa

theorem u8_wf {z : Int} (h : (Lit.int .u8 z).wf = true) : 0 ≤ z ∧ z ≤ 255 := by
  simp [Lit.wf, IntKind.min, IntKind.max, IntKind.signed, IntKind.bits] at h
  omega
theorem u16_wf {z : Int} (h : (Lit.int .u16 z).wf = true) : 0 ≤ z ∧ z ≤ 65535 := by
  simp [Lit.wf, IntKind.min, IntKind.max, IntKind.signed, IntKind.bits] at h
  omega
theorem walk_blobFits (w : World) (v : Value) (l : List (Int × Int)) (hv : RunsAt l v w) (_ : l.length ≤ maxLen) (n : Int) (wn : (Lit.int .i64 n).wf = true) (size : Int) (ws : (Lit.int .i64 size).wf = true) (st : Int) (wst : (Lit.int .u8 st).wf = true) :
    Calls Try.prog 3 #[v, .int .i64 n, .int .i64 size, .int .u8 st] w (LawPost w) :=
  blobFits_of beachOk bfitOk (fun W => bawake_of newDisk bputOk bgetOk W) l v w hv n size st (wf_I64 wn) (wf_I64 ws) (u8_wf wst)
theorem walk_blobBack (w : World) (v0 : Value) (zs : List Int) (h0 : IntAt .u8 zs v0 w) (hz : zs.length ≤ maxLen ∧ ∀ n ∈ zs, (Lit.int .u8 n).wf = true) (v1 : Value) (l : List (Int × Int)) (hv : RunsAt l v1 w) (_ : l.length ≤ maxLen) (sz : Int) (wz : (Lit.int .u16 sz).wf = true) (lost : Bool) :
    Calls Try.prog 5 #[v0, v1, .int .u16 sz, .bool lost] w (LawPost w) := by
  have h2 := u16_wf wz
  obtain ⟨k, rfl⟩ : ∃ k : Nat, sz = k := ⟨sz.toNat, by omega⟩
  exact blobBack_of loadDisk bputOk bgetOk (fun W => bawake_of newDisk bputOk bgetOk W) w v0 zs h0 (fun z h => u8_wf (hz.2 z h)) hz.1 v1 l hv k (by omega) lost
theorem walk_blobNobody (w : World) (v : Value) (l : List (Int × Int)) (hv : RunsAt l v w) (_ : l.length ≤ maxLen) (t : ByteArray) (ht : t.size ≤ maxLen) :
    Calls Try.prog 6 #[v, .string t] w (LawPost w) :=
  blobNobody_landed w v l hv t ht
theorem walk_blobPlays (w : World) (n : Int) (wn : (Lit.int .u8 n).wf = true) (v : Value) (acs : List ActB12) (hv : ActsB acs v w) (hl : acs.length ≤ maxLen) :
    Calls Try.prog 4 #[.int .u8 n, v] w (LawPost w) :=
  blobPlays_of newDisk bputOk bgetOk bcopyOk w n wn v acs hv hl

end Go.Proofs.Ytppbknlhknadbaa
