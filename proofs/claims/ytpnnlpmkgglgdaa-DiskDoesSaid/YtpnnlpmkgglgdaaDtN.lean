/- The program's disk: New, Load; its contract. -/
import Derived.Test.YtpnnlpmkgglgdaaDtQ
import Derived.Test.YtpnnlpmkgglgdaaDkE
namespace Go.Proofs.Ytpnnlpmkgglgdaa
open Go.RowKit

def DP (B g b c m : Nat) (s : Dk) (Bs : Nat → Prop) (w : World) : Prop := ∃ vp, DAt B g b c m s vp w ∧ Bs = DBs g b m vp

theorem DP.post {B g b c m : Nat} {s' : Dk} {vp ret : Value} {w w' : World} {e : Ending} (h : DsPost B g b c m s' vp ret w e w') : DPost (DP B g b c m) (DBs g b m vp) s' ret w e w' := by
  obtain ⟨he, vp', h1, h2, h3⟩ := h
  refine ⟨he, ⟨_, ⟨vp', h1, rfl⟩, fun k hk => ?_⟩, h3⟩
  rcases hk with e | e | e | e
  · exact Or.inl (Or.inl e)
  · exact Or.inl (Or.inr (Or.inl e))
  · exact Or.inl (Or.inr (Or.inr (Or.inl e)))
  · exact (h2 k e).imp (fun x => Or.inr (Or.inr (Or.inr x))) id

theorem wf_bounds {i : Int} (h : (Lit.int .i64 i).wf = true) : -9223372036854775808 ≤ i ∧ i ≤ 9223372036854775807 := by
  simpa [Lit.wf, IntKind.min, IntKind.max, IntKind.signed, IntKind.bits] using h

theorem diskOk (B g b c m : Nat) : DiskOk B (.pointer (some ⟨g, 0, none⟩)) (DP B g b c m) where
  above := by
    rintro s Bs w ⟨vp, h, rfl⟩ k hk
    exact h.lt k hk
  stay := by
    rintro s Bs w w' ⟨vp, h, rfl⟩ _ hk
    exact ⟨vp, h.stay hk, rfl⟩
  len := by
    rintro s Bs w ⟨vp, h, rfl⟩ hok
    exact (dlen_any h hok).mono fun e w' ⟨a, b⟩ => ⟨a, b ▸ Below.refl _ _⟩
  down := by
    rintro s Bs w ⟨vp, h, rfl⟩
    exact (ddown_any h).mono fun e w' ⟨a, b⟩ => ⟨a, b ▸ Below.refl _ _⟩
  waits := by
    rintro s Bs w ⟨vp, h, rfl⟩
    exact (dwaits_any h).mono fun e w' ⟨a, b⟩ => ⟨a, b ▸ Below.refl _ _⟩
  ops := by
    rintro s Bs w ⟨vp, h, rfl⟩
    exact (dops_any h).mono fun e w' ⟨a, b⟩ => ⟨a, b ▸ Below.refl _ _⟩
  image := by
    rintro s Bs w ⟨vp, h, rfl⟩ hok
    exact (dimage_any h).mono fun e w' ⟨a, b⟩ => ⟨a, b ▸ Below.refl _ _⟩
  read := by
    rintro s Bs w i ⟨vp, h, rfl⟩ hok hlo hi
    exact (dread_any h hok i hi).mono fun e w' ⟨a, b⟩ => ⟨a, b ▸ Below.refl _ _⟩
  write := by
    rintro s Bs w i t ⟨vp, h, rfl⟩ hok hlo hi _
    exact (dwrite_any h hok hlo i hi t).mono fun e w' p => DP.post p
  flush := by
    rintro s Bs w ⟨vp, h, rfl⟩ hok hlo
    exact (dflush_any h hok hlo).mono fun e w' p => DP.post p
  fuse := by
    rintro s Bs w n ⟨vp, h, rfl⟩ _
    exact (dfuse_any h n).mono fun e w' p => DP.post p
  power := by
    rintro s Bs w l kv ⟨vp, h, rfl⟩ hok hlo hkv
    exact (dpower_any h hok hlo l kv hkv).mono fun e w' p => DP.post p
  spoil := by
    rintro s Bs w i t ⟨vp, h, rfl⟩ hok hi ht
    exact (dspoil_any h hok i (wf_bounds hi) t ht).mono fun e w' p => DP.post p

set_option maxRecDepth 100000 in
set_option maxHeartbeats 1000000 in
theorem dmake_any {B b c : Nat} {bs : List UInt8} {w : World} (hb : BytesAt b bs w) (hB : B ≤ b) (hc : bs.length ≤ c) (s : Dk) (hi : s.image = bs) (hw : s.waits = []) (hf : s.fuse = -1) (ho : s.ops = 0) (hd : s.down = false) :
    Calls Try.prog 26 #[.slice (some ⟨b, 0, none⟩) bs.length c] w fun e w' => e = .returned (.pointer (some ⟨w.heap.size + 1, 0, none⟩)) ∧ DAt B (w.heap.size + 1) b c w.heap.size s (.slice none 0 0) w' ∧ Below w.heap.size w w' := by
  have hmm := @run_makeMap Try.prog
  have hBw : B ≤ w.heap.size := by have := hb.lt; omega
  have HB := Lib.hid hb
  have HBB := Lib.hid hB
  have HC := Lib.hid hc
  have HI := Lib.hid hi
  have HW := Lib.hid hw
  have HF : Hid (dA (w.heap.size + 1) s b s.image.length c (.slice none 0 0) w.heap.size = #[.pointer (some ⟨w.heap.size + 1, 0, none⟩), .slice (some ⟨b, 0, none⟩) bs.length c, .slice none 0 0, .map (some w.heap.size), .int .i64 (-1), .int .i64 0, .bool false]) := Lib.hid (by unfold dA; rw [hi, hf, ho, hd]; rfl)
  obtain ⟨L, hL⟩ : ∃ L, L = bs.length := ⟨_, rfl⟩
  rw [← hL] at HF ⊢
  have HL := Lib.hid hL
  clear hb hB hc hi hw hf ho hd hL
  go_enter Try.func26, Try.ntmps26
  go_wp2
  go_ret
  have k1 : Below w.heap.size w (w.alloc (.map #[] 0)) := box_below _ _
  have k2 : Below w.heap.size w ((w.alloc (.map #[] 0)).alloc (.cells #[.pointer (some ⟨w.heap.size + 1, 0, none⟩), .slice (some ⟨b, 0, none⟩) L c, .slice none 0 0, .map (some w.heap.size), .int .i64 (-1), .int .i64 0, .bool false] 59)) := k1.alloc (by simp) _
  refine ⟨rfl, ⟨by omega, ?_, HBB.out, by rw [HI.out]; exact HC.out, by rw [HI.out]; exact HB.out.kept k2, by rw [HW.out]; exact World.ownsRow_nil _ _ _ _, hBw, ?_⟩, k2⟩
  · rw [HF.out]
    have e := heap_alloc_new (w.alloc (.map #[] 0)) (.cells #[.pointer (some ⟨w.heap.size + 1, 0, none⟩), .slice (some ⟨b, 0, none⟩) L c, .slice none 0 0, .map (some w.heap.size), .int .i64 (-1), .int .i64 0, .bool false] 59)
    simpa using e
  · rw [HW.out]
    exact (MapIs.made eltInt w).stay ((box_below (w.alloc (.map #[] 0)) _).block w.heap.size (by simp))

end Go.Proofs.Ytpnnlpmkgglgdaa
