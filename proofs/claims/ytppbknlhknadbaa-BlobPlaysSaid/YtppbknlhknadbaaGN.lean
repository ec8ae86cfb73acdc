/- The program's disk: New, Load; its contract. The program's disk: New, Load, and a disk that nobody made; the walks of the laws. -/
import Derived.Test.YtppbknlhknadbaaGM
import Derived.Test.YtppbknlhknadbaaGR
namespace Go.Proofs.Ytppbknlhknadbaa
open Go.RowKit

def DP (B g b c m : Nat) (s : Dk) (Bs : Nat → Prop) (w : World) : Prop := ∃ vp, DAt B g b c m s vp w ∧ Bs = DBs g b m vp

theorem DP.post {B g b c m : Nat} {s' : Dk} {vp ret : Value} {w w' : World} {e : Ending} (h : DsPost B g b c m s' vp ret w e w') : DPost (DP B g b c m) (DBs g b m vp) s' ret w e w' := by
  obtain ⟨he, vp', h1, h2, h3⟩ := h
  refine ⟨he, ⟨_, ⟨vp', h1, rfl⟩, fun k hk => ?_⟩, h3⟩
  rcases hk with e | e | e | e
  · exact Or.inl (Or.inl e)
  · exact Or.inl (Or.inr (Or.inl e))
  · exact Or.inl (Or.inr (Or.inr (Or.inl e)))
  · exact (h2 k e).imp (fun x => Or.inr (Or.inr (Or.inr x))) id

theorem wf_bounds {i : Int} (h : (Lit.int .i64 i).wf = true) : -9223372036854775808 ≤ i ∧ i ≤ 9223372036854775807 := by
  simpa [Lit.wf, IntKind.min, IntKind.max, IntKind.signed, IntKind.bits] using h

theorem diskOk (B g b c m : Nat) : DiskOk B (.pointer (some ⟨g, 0, none⟩)) (DP B g b c m) where
  above := by
    rintro s Bs w ⟨vp, h, rfl⟩ k hk
    exact h.lt k hk
  stay := by
    rintro s Bs w w' ⟨vp, h, rfl⟩ _ hk
    exact ⟨vp, h.stay hk, rfl⟩
  len := by
    rintro s Bs w ⟨vp, h, rfl⟩ hok
    exact (dlen_any h hok).mono fun e w' ⟨a, b⟩ => ⟨a, b ▸ Below.refl _ _⟩
  down := by
    rintro s Bs w ⟨vp, h, rfl⟩
    exact (ddown_any h).mono fun e w' ⟨a, b⟩ => ⟨a, b ▸ Below.refl _ _⟩
  waits := by
    rintro s Bs w ⟨vp, h, rfl⟩
    exact (dwaits_any h).mono fun e w' ⟨a, b⟩ => ⟨a, b ▸ Below.refl _ _⟩
  image := by
    rintro s Bs w ⟨vp, h, rfl⟩ hok
    exact (dimage_any h).mono fun e w' ⟨a, b⟩ => ⟨a, b ▸ Below.refl _ _⟩
  read := by
    rintro s Bs w i ⟨vp, h, rfl⟩ hok hlo hi
    exact (dread_any h hok i hi).mono fun e w' ⟨a, b⟩ => ⟨a, b ▸ Below.refl _ _⟩
  write := by
    rintro s Bs w i t ⟨vp, h, rfl⟩ hok hlo hi _
    exact (dwrite_any h hok hlo i hi t).mono fun e w' p => DP.post p
  flush := by
    rintro s Bs w ⟨vp, h, rfl⟩ hok hlo
    exact (dflush_any h hok hlo).mono fun e w' p => DP.post p
  fuse := by
    rintro s Bs w n ⟨vp, h, rfl⟩ _
    exact (dfuse_any h n).mono fun e w' p => DP.post p
  power := by
    rintro s Bs w l kv ⟨vp, h, rfl⟩ hok hlo hkv
    exact (dpower_any h hok hlo l kv hkv).mono fun e w' p => DP.post p
  ptr := ⟨_, rfl⟩
  one := by
    rintro s Bs s' Bs' w ⟨vp, h, rfl⟩ ⟨vp', h', rfl⟩
    have a := (h.cell 2 vp rfl).symm.trans (h'.cell 2 vp' rfl)
    rw [Option.some.inj a]
  grow := by
    rintro s Bs w s' Bs' w' k ⟨vp, h, rfl⟩ ⟨vp', h', rfl⟩ hk
    rcases hk with e | e | e | e
    · exact Or.inl (Or.inl e)
    · exact Or.inl (Or.inr (Or.inl e))
    · exact Or.inl (Or.inr (Or.inr (Or.inl e)))
    · right
      rcases h'.pend.2 with ⟨rfl, _⟩ | ⟨g', cap, cur, rfl, _, hg, _⟩
      · cases e
      · simp only [Value.ownBlock, Option.some.injEq] at e
        subst e
        exact ⟨_, _, _, hg⟩

set_option maxRecDepth 100000 in
set_option maxHeartbeats 1000000 in
theorem dmake_any {B b c : Nat} {bs : List UInt8} {w : World} (hb : BytesAt b bs w) (hB : B ≤ b) (hc : bs.length ≤ c) (s : Dk) (hi : s.image = bs) (hw : s.waits = []) (hf : s.fuse = -1) (ho : s.ops = 0) (hd : s.down = false) :
    Calls Try.prog 37 #[.slice (some ⟨b, 0, none⟩) bs.length c] w fun e w' => e = .returned (.pointer (some ⟨w.heap.size + 1, 0, none⟩)) ∧ DAt B (w.heap.size + 1) b c w.heap.size s (.slice none 0 0) w' ∧ Below w.heap.size w w' := by
  have hmm := @run_makeMap Try.prog
  have hBw : B ≤ w.heap.size := by have := hb.lt; omega
  have HB := Lib.hid hb
  have HBB := Lib.hid hB
  have HC := Lib.hid hc
  have HI := Lib.hid hi
  have HW := Lib.hid hw
  have HF : Hid (dA (w.heap.size + 1) s b s.image.length c (.slice none 0 0) w.heap.size = #[.pointer (some ⟨w.heap.size + 1, 0, none⟩), .slice (some ⟨b, 0, none⟩) bs.length c, .slice none 0 0, .map (some w.heap.size), .int .i64 (-1), .int .i64 0, .bool false]) := Lib.hid (by unfold dA; rw [hi, hf, ho, hd]; rfl)
  obtain ⟨L, hL⟩ : ∃ L, L = bs.length := ⟨_, rfl⟩
  rw [← hL] at HF ⊢
  have HL := Lib.hid hL
  clear hb hB hc hi hw hf ho hd hL
  go_enter Try.func37, Try.ntmps37
  go_wp2
  go_ret
  have k1 : Below w.heap.size w (w.alloc (.map #[] 0)) := box_below _ _
  have k2 : Below w.heap.size w ((w.alloc (.map #[] 0)).alloc (.cells #[.pointer (some ⟨w.heap.size + 1, 0, none⟩), .slice (some ⟨b, 0, none⟩) L c, .slice none 0 0, .map (some w.heap.size), .int .i64 (-1), .int .i64 0, .bool false] 79)) := k1.alloc (by simp) _
  refine ⟨rfl, ⟨by omega, ?_, HBB.out, by rw [HI.out]; exact HC.out, by rw [HI.out]; exact HB.out.kept k2, by rw [HW.out]; exact World.ownsRow_nil _ _ _ _, hBw, ?_⟩, k2⟩
  · rw [HF.out]
    have e := heap_alloc_new (w.alloc (.map #[] 0)) (.cells #[.pointer (some ⟨w.heap.size + 1, 0, none⟩), .slice (some ⟨b, 0, none⟩) L c, .slice none 0 0, .map (some w.heap.size), .int .i64 (-1), .int .i64 0, .bool false] 79)
    simpa using e
  · rw [HW.out]
    exact (MapIs.made eltInt w).stay ((box_below (w.alloc (.map #[] 0)) _).block w.heap.size (by simp))

end Go.Proofs.Ytppbknlhknadbaa
namespace Go.Proofs.Ytppbknlhknadbaa
open Go.RowKit

theorem new_image (n : Nat) : (Dk.new n).image = List.replicate (128 * n) 0 := by
  show (List.replicate n (List.replicate 128 (0 : UInt8))).flatten = _
  rw [List.flatten_replicate_replicate, Nat.mul_comm]

set_option maxRecDepth 100000 in
set_option maxHeartbeats 1000000 in
theorem newDisk : NewDisk := by
  intro n w
  by_cases h : 1 ≤ n ∧ n ≤ 8192
  · obtain ⟨q, rfl⟩ : ∃ q : Nat, n = q := ⟨n.toNat, by omega⟩
    have h1 : ¬ (q : Int) < 1 := by omega
    have h2 : ¬ (q : Int) > 8192 := by omega
    obtain ⟨z, hz⟩ : ∃ z, z = 128 * q := ⟨_, rfl⟩
    have v1 : IntKind.i64.wrap ((q : Int) * 128) = (z : Int) := by rw [show (q : Int) * 128 = (z : Int) by omega]; exact IntWalk.i64_in _ (by omega)
    obtain ⟨w1, hmk, hba, hb1⟩ := BytesAt.made z (by omega) w
    have MK := dmake_any (B := w.heap.size) hba (Nat.le_refl _) (c := z) (by simp) (Dk.new q) (by rw [new_image, hz]) rfl rfl rfl rfl
    rw [List.length_replicate] at MK
    have HB1 := Lib.hid hb1
    have HQ := Lib.hid h
    clear hz hba hb1 h
    go_enter Try.func14, Try.ntmps14
    go_wp2_with fail
    refine MK.mono ?_
    rintro e w2 ⟨rfl, hd, hb2⟩
    have K2 : Kept w w2 := (show Kept w w1 from HB1.out).then hb2
    have HD := Lib.hid hd
    have HK2 := Lib.hid K2
    clear hd hb2 K2 MK hmk
    go_wp2
    first | go_ret | go_ret2
    exact ⟨HK2.out, Or.inr ⟨HQ.out, _, _, _, rfl, diskOk _ _ _ _ _, ⟨_, HD.out, rfl⟩⟩⟩
  · have HN := Lib.hid h
    by_cases h1 : n < 1
    · clear h
      go_enter Try.func14, Try.ntmps14
      go_wp2
      first | go_ret | go_ret2
      exact ⟨Below.refl _ _, Or.inl ⟨HN.out, rfl⟩⟩
    · have h2 : n > 8192 := by omega
      clear h
      go_enter Try.func14, Try.ntmps14
      go_wp2
      first | go_ret | go_ret2
      first | exact ⟨Below.refl _ _, Or.inl ⟨HN.out, rfl⟩⟩ | exact ⟨Below.refl _ _, Or.inl rfl⟩

set_option maxRecDepth 100000 in
set_option maxHeartbeats 1000000 in
theorem loadDisk : LoadDisk := by
  intro t htm w
  have hl := str_len t
  by_cases h : loadOk t.data.toList
  · obtain ⟨c, w1, hc, hcv, hba, hb1⟩ := BytesAt.of_str t w
    have MK := dmake_any (B := w.heap.size) hba (Nat.le_refl _) (c := c) (by rw [hl]; exact hc) (Dk.load t.data.toList) (Dk.load_image h) rfl rfl rfl rfl
    rw [hl] at MK
    have HB1 := Lib.hid hb1
    have HQ := Lib.hid h
    unfold loadOk at h
    rw [hl] at h
    obtain ⟨n, hn⟩ : ∃ n, n = t.size := ⟨_, rfl⟩
    have b1 : ¬ (t.size : Int) < 128 := by omega
    have b2 : (((t.size : Int).tmod 128) != 0) = false := by
      rw [bne_eq_false_iff_eq, Int.tmod_eq_emod_of_nonneg (by omega)]; omega
    have b2' : (((t.size : Int) % 128) != 0) = false := by
      rw [bne_eq_false_iff_eq]; omega
    have b3 : ¬ (t.size : Int) > 1048576 := by omega
    clear hba hb1 h hn hl htm
    go_enter Try.func21, Try.ntmps21
    go_wp2_with fail
    refine MK.mono ?_
    rintro e w2 ⟨rfl, hd, hb2⟩
    have K2 : Kept w w2 := (show Kept w w1 from HB1.out).then hb2
    have HD := Lib.hid hd
    have HK2 := Lib.hid K2
    clear hd hb2 K2 MK hcv
    go_wp2
    first | go_ret | go_ret2
    exact ⟨HK2.out, Or.inr ⟨HQ.out, _, _, _, rfl, diskOk _ _ _ _ _, ⟨_, HD.out, rfl⟩⟩⟩
  · have HN := Lib.hid h
    unfold loadOk at h
    rw [hl] at h
    have htb : t.size ≤ 9223372036854775807 := by simp only [maxLen] at htm; omega
    by_cases h0 : t.size < 128
    · have b1 : (t.size : Int) < 128 := by omega
      clear h h0 hl htm htb
      go_enter Try.func21, Try.ntmps21
      go_wp2
      first | go_ret | go_ret2
      exact ⟨Below.refl _ _, Or.inl ⟨HN.out, rfl⟩⟩
    · have b1 : ¬ (t.size : Int) < 128 := by omega
      by_cases h3 : t.size > 1048576
      · have b3 : (t.size : Int) > 1048576 := by omega
        clear h h0 h3 hl htm htb
        go_enter Try.func21, Try.ntmps21
        go_wp2
        first | go_ret | go_ret2
        exact ⟨Below.refl _ _, Or.inl ⟨HN.out, rfl⟩⟩
      · have b3 : ¬ (t.size : Int) > 1048576 := by omega
        have h1 : ¬ t.size % 128 = 0 := by omega
        have b2 : (((t.size : Int).tmod 128) != 0) = true := by
          rw [bne_iff_ne, Int.tmod_eq_emod_of_nonneg (by omega)]; omega
        have b2' : (((t.size : Int) % 128) != 0) = true := by
          rw [bne_iff_ne]; omega
        clear h h0 h1 h3 hl htm htb
        go_enter Try.func21, Try.ntmps21
        go_wp2
        first | go_ret | go_ret2
        exact ⟨Below.refl _ _, Or.inl ⟨HN.out, rfl⟩⟩

set_option maxRecDepth 100000 in
theorem dmade_nil (w : World) : Calls Try.prog 45 #[.pointer none] w fun e w' => e = .returned (.bool false) ∧ w = w' := by
  go_enter Try.func45, Try.ntmps45
  go_wp2
  go_ret
  exact ⟨rfl, rfl⟩

set_option maxRecDepth 100000 in
theorem dready_nil (w : World) : Calls Try.prog 50 #[.pointer none] w fun e w' => e = .returned (.int .i64 4) ∧ w = w' := by
  go_enter Try.func50, Try.ntmps50
  go_wp2_with fail
  refine (dmade_nil _).mono ?_
  rintro e w' ⟨rfl, rfl⟩
  go_wp2
  go_ret
  exact ⟨rfl, rfl⟩

set_option maxRecDepth 100000 in
theorem dreach_nil (i : Int) (w : World) : Calls Try.prog 64 #[.pointer none, .int .i64 i] w fun e w' => e = .returned (.int .i64 4) ∧ w = w' := by
  go_enter Try.func64, Try.ntmps64
  go_wp2_with fail
  refine (dready_nil _).mono ?_
  rintro e w' ⟨rfl, rfl⟩
  go_wp2
  go_ret
  exact ⟨rfl, rfl⟩

end Go.Proofs.Ytppbknlhknadbaa
