/- A disk alone: its contract step by step; the statements' own example, out of it. The walks of DiskNobody, DiskLoads, out of the contracts. The program's disk: New, Load; its contract. -/
import Derived.Test.YtoigembmbajopaaDoorGM
import Derived.Test.YtoigembmbajopaaDoorHC
namespace Go.Proofs.YtoigembmbajopaaDoor
open Go.RowKit

/-- A disk of that state, in memory of the call's own; all below stands. -/
def DIn (B : Nat) (P : Dk → (Nat → Prop) → World → Prop) (s : Dk) (w0 w : World) : Prop := (∃ Bs, P s Bs w) ∧ Below B w0 w ∧ B ≤ w.heap.size

section
variable {B : Nat} {x : Value} {P : Dk → (Nat → Prop) → World → Prop} (D : DiskOk B x P) {s : Dk} {w0 w : World} (h : DIn B P s w0 w)
include D h

theorem DIn.kept {w' : World} (k : Kept w w') : DIn B P s w0 w' := by
  obtain ⟨⟨Bs, hp⟩, hb, hs⟩ := h
  exact ⟨⟨Bs, D.kept hp k⟩, Below.then' hb k hs, Nat.le_trans hs k.size⟩

omit h in
theorem DIn.of_post {Bs : Nat → Prop} {s' : Dk} {ret : Value} {e : Ending} {w' : World} (hp : P s Bs w) (hb : Below B w0 w) (hs : B ≤ w.heap.size) (post : DPost P Bs s' ret w e w') : e = .returned ret ∧ DIn B P s' w0 w' := by
  obtain ⟨he, ⟨Bs', hp', _⟩, hbut⟩ := post
  exact ⟨he, ⟨Bs', hp'⟩, hbut.kept (fun k hk => (D.above s Bs w hp k hk).1) hb hs, Nat.le_trans hs hbut.size⟩

theorem din_len (hok : s.ok) : Calls Tryd.prog 101 #[x] w fun e w' => e = .returned (.int .i64 (s.stands.length : Nat)) ∧ DIn B P s w0 w' := by
  have h' := h
  obtain ⟨⟨Bs, hp⟩, _⟩ := h'
  exact (D.len s Bs w hp hok).mono fun e w' ⟨a, b⟩ => ⟨a, DIn.kept D h b⟩
theorem din_down : Calls Tryd.prog 30 #[x] w fun e w' => e = .returned (.bool s.down) ∧ DIn B P s w0 w' := by
  have h' := h
  obtain ⟨⟨Bs, hp⟩, _⟩ := h'
  exact (D.down s Bs w hp).mono fun e w' ⟨a, b⟩ => ⟨a, DIn.kept D h b⟩
theorem din_waits : Calls Tryd.prog 29 #[x] w fun e w' => e = .returned (.int .i64 (s.waits.length : Nat)) ∧ DIn B P s w0 w' := by
  have h' := h
  obtain ⟨⟨Bs, hp⟩, _⟩ := h'
  exact (D.waits s Bs w hp).mono fun e w' ⟨a, b⟩ => ⟨a, DIn.kept D h b⟩
theorem din_ops : Calls Tryd.prog 27 #[x] w fun e w' => e = .returned (.int .i64 (s.ops : Nat)) ∧ DIn B P s w0 w' := by
  have h' := h
  obtain ⟨⟨Bs, hp⟩, _⟩ := h'
  exact (D.ops s Bs w hp).mono fun e w' ⟨a, b⟩ => ⟨a, DIn.kept D h b⟩
theorem din_image (hok : s.ok) : Calls Tryd.prog 34 #[x] w fun e w' => e = .returned (.string (str s.image)) ∧ DIn B P s w0 w' := by
  have h' := h
  obtain ⟨⟨Bs, hp⟩, _⟩ := h'
  exact (D.image s Bs w hp hok).mono fun e w' ⟨a, b⟩ => ⟨a, DIn.kept D h b⟩
theorem din_read (i : Int) (hok : s.ok) (hlo : s.ops ≤ 4294967296) (hi : (Lit.int .i64 i).wf = true) : Calls Tryd.prog 71 #[x, .int .i64 i] w fun e w' => e = .returned (.tuple #[.string (str (s.readT i)), .int .i64 (s.readE i)]) ∧ DIn B P s w0 w' := by
  have h' := h
  obtain ⟨⟨Bs, hp⟩, _⟩ := h'
  exact (D.read s Bs w i hp hok hlo hi).mono fun e w' ⟨a, b⟩ => ⟨a, DIn.kept D h b⟩
theorem din_write (i : Int) (t : ByteArray) (hok : s.ok) (hlo : s.ops ≤ 4294967295) (hi : (Lit.int .i64 i).wf = true) (ht : t.size ≤ maxLen) : Calls Tryd.prog 64 #[x, .int .i64 i, .string t] w fun e w' => e = .returned (.int .i64 (s.writeE i t.data.toList)) ∧ DIn B P (s.writeS i t.data.toList) w0 w' := by
  obtain ⟨⟨Bs, hp⟩, hb, hs⟩ := h
  exact (D.write s Bs w i t hp hok hlo hi ht).mono fun e w' p => DIn.of_post D hp hb hs p
theorem din_flush (hok : s.ok) (hlo : s.ops ≤ 4294967295) : Calls Tryd.prog 36 #[x] w fun e w' => e = .returned (.int .i64 s.flushE) ∧ DIn B P s.flushS w0 w' := by
  obtain ⟨⟨Bs, hp⟩, hb, hs⟩ := h
  exact (D.flush s Bs w hp hok hlo).mono fun e w' p => DIn.of_post D hp hb hs p
theorem din_power (l : List Bool) (kv : Value) (hok : s.ok) (hlo : s.ops ≤ 4294967296) (hkv : ∀ w', w.heap.size ≤ w'.heap.size → (∀ k, k < B → k < w.heap.size → w'.heap[k]? = w.heap[k]?) → BoolAt l kv w') : Calls Tryd.prog 32 #[x, kv] w fun e w' => e = .returned (.tuple #[]) ∧ DIn B P (s.powerS l) w0 w' := by
  obtain ⟨⟨Bs, hp⟩, hb, hs⟩ := h
  exact (D.power s Bs w l kv hp hok hlo hkv).mono fun e w' p => DIn.of_post D hp hb hs p
end

def ta : ByteArray := str (secT [97])
def tb : ByteArray := str (secT [98])
def s0 : Dk := Dk.new 3
def s1 : Dk := s0.writeS 1 ta.data.toList
def s2 : Dk := s1.powerS []
def s3 : Dk := s2.writeS 1 tb.data.toList
def s4 : Dk := s3.flushS
def s5 : Dk := s4.powerS []
theorem aw1 : s0.writeE 1 ta.data.toList = 0 ∧ s2.readE 1 = 0 ∧ s2.writeE 1 tb.data.toList = 0 ∧ s3.flushE = 0 ∧ s5.readE 1 = 0 := by decide +kernel
theorem aw2 : s2.readT 1 = zeroT ∧ s5.readT 1 = secT [98] ∧ s5.image.length = 384 ∧ s5.ops = 3 := by decide +kernel
theorem ok0 : s0.ok := Dk.ok.new (by decide) (by decide)
theorem ok1 : s1.ok := ok0.write _ _
theorem ok2 : s2.ok := ok1.power _
theorem ok3 : s3.ok := ok2.write _ _
theorem ok4 : s4.ok := ok3.flush
theorem ok5 : s5.ok := ok4.power _
theorem lo0 : s0.ops ≤ 3 ∧ s1.ops ≤ 3 ∧ s2.ops ≤ 3 ∧ s3.ops ≤ 3 ∧ s4.ops ≤ 3 ∧ s5.ops ≤ 3 := by decide +kernel

end Go.Proofs.YtoigembmbajopaaDoor
namespace Go.Proofs.YtoigembmbajopaaDoor
open Go.RowKit Go.ChangeShapes

/-- Of a disk that nobody made nothing comes. -/
structure NilDisk : Prop where
  fuse : ∀ (n : Int) w, Calls Tryd.prog 23 #[.pointer none, .int .i64 n] w fun e w' => e = .returned (.tuple #[]) ∧ Below w.heap.size w w'
  power : ∀ w, Calls Tryd.prog 32 #[.pointer none, .slice none 0 0] w fun e w' => e = .returned (.tuple #[]) ∧ Below w.heap.size w w'
  read : ∀ (i : Int) w, Calls Tryd.prog 71 #[.pointer none, .int .i64 i] w fun e w' => e = .returned (.tuple #[.string ⟨#[]⟩, .int .i64 4]) ∧ Below w.heap.size w w'
  write : ∀ (i : Int) (t : ByteArray) w, Calls Tryd.prog 64 #[.pointer none, .int .i64 i, .string t] w fun e w' => e = .returned (.int .i64 4) ∧ Below w.heap.size w w'
  flush : ∀ w, Calls Tryd.prog 36 #[.pointer none] w fun e w' => e = .returned (.int .i64 4) ∧ Below w.heap.size w w'
  len : ∀ w, Calls Tryd.prog 101 #[.pointer none] w fun e w' => e = .returned (.int .i64 0) ∧ Below w.heap.size w w'
  waits : ∀ w, Calls Tryd.prog 29 #[.pointer none] w fun e w' => e = .returned (.int .i64 0) ∧ Below w.heap.size w w'
  ops : ∀ w, Calls Tryd.prog 27 #[.pointer none] w fun e w' => e = .returned (.int .i64 0) ∧ Below w.heap.size w w'
  down : ∀ w, Calls Tryd.prog 30 #[.pointer none] w fun e w' => e = .returned (.bool false) ∧ Below w.heap.size w w'
  image : ∀ w, Calls Tryd.prog 34 #[.pointer none] w fun e w' => e = .returned (.string ⟨#[]⟩) ∧ Below w.heap.size w w'

end Go.Proofs.YtoigembmbajopaaDoor
namespace Go.Proofs.YtoigembmbajopaaDoor
open Go.RowKit

def DP (B g b c m : Nat) (s : Dk) (Bs : Nat → Prop) (w : World) : Prop := ∃ vp, DAt B g b c m s vp w ∧ Bs = DBs g b m vp

theorem DP.post {B g b c m : Nat} {s' : Dk} {vp ret : Value} {w w' : World} {e : Ending} (h : DsPost B g b c m s' vp ret w e w') : DPost (DP B g b c m) (DBs g b m vp) s' ret w e w' := by
  obtain ⟨he, vp', h1, h2, h3⟩ := h
  refine ⟨he, ⟨_, ⟨vp', h1, rfl⟩, fun k hk => ?_⟩, h3⟩
  rcases hk with e | e | e | e
  · exact Or.inl (Or.inl e)
  · exact Or.inl (Or.inr (Or.inl e))
  · exact Or.inl (Or.inr (Or.inr (Or.inl e)))
  · exact (h2 k e).imp (fun x => Or.inr (Or.inr (Or.inr x))) id

theorem wf_bounds {i : Int} (h : (Lit.int .i64 i).wf = true) : -9223372036854775808 ≤ i ∧ i ≤ 9223372036854775807 := by
  simpa [Lit.wf, IntKind.min, IntKind.max, IntKind.signed, IntKind.bits] using h

theorem diskOk (B g b c m : Nat) : DiskOk B (.pointer (some ⟨g, 0, none⟩)) (DP B g b c m) where
  above := by
    rintro s Bs w ⟨vp, h, rfl⟩ k hk
    exact h.lt k hk
  stay := by
    rintro s Bs w w' ⟨vp, h, rfl⟩ _ hk
    exact ⟨vp, h.stay hk, rfl⟩
  len := by
    rintro s Bs w ⟨vp, h, rfl⟩ hok
    exact (dlen_any h hok).mono fun e w' ⟨a, b⟩ => ⟨a, b ▸ Below.refl _ _⟩
  down := by
    rintro s Bs w ⟨vp, h, rfl⟩
    exact (ddown_any h).mono fun e w' ⟨a, b⟩ => ⟨a, b ▸ Below.refl _ _⟩
  waits := by
    rintro s Bs w ⟨vp, h, rfl⟩
    exact (dwaits_any h).mono fun e w' ⟨a, b⟩ => ⟨a, b ▸ Below.refl _ _⟩
  ops := by
    rintro s Bs w ⟨vp, h, rfl⟩
    exact (dops_any h).mono fun e w' ⟨a, b⟩ => ⟨a, b ▸ Below.refl _ _⟩
  image := by
    rintro s Bs w ⟨vp, h, rfl⟩ hok
    exact (dimage_any h).mono fun e w' ⟨a, b⟩ => ⟨a, b ▸ Below.refl _ _⟩
  read := by
    rintro s Bs w i ⟨vp, h, rfl⟩ hok hlo hi
    exact (dread_any h hok i hi).mono fun e w' ⟨a, b⟩ => ⟨a, b ▸ Below.refl _ _⟩
  write := by
    rintro s Bs w i t ⟨vp, h, rfl⟩ hok hlo hi _
    exact (dwrite_any h hok hlo i hi t).mono fun e w' p => DP.post p
  flush := by
    rintro s Bs w ⟨vp, h, rfl⟩ hok hlo
    exact (dflush_any h hok hlo).mono fun e w' p => DP.post p
  fuse := by
    rintro s Bs w n ⟨vp, h, rfl⟩ _
    exact (dfuse_any h n).mono fun e w' p => DP.post p
  power := by
    rintro s Bs w l kv ⟨vp, h, rfl⟩ hok hlo hkv
    exact (dpower_any h hok hlo l kv hkv).mono fun e w' p => DP.post p
  ptr := ⟨_, rfl⟩
  one := by
    rintro s Bs s' Bs' w ⟨vp, h, rfl⟩ ⟨vp', h', rfl⟩
    have a := (h.cell 2 vp rfl).symm.trans (h'.cell 2 vp' rfl)
    rw [Option.some.inj a]
  grow := by
    rintro s Bs w s' Bs' w' k ⟨vp, h, rfl⟩ ⟨vp', h', rfl⟩ hk
    rcases hk with e | e | e | e
    · exact Or.inl (Or.inl e)
    · exact Or.inl (Or.inr (Or.inl e))
    · exact Or.inl (Or.inr (Or.inr (Or.inl e)))
    · right
      rcases h'.pend.2 with ⟨rfl, _⟩ | ⟨g', cap, cur, rfl, _, hg, _⟩
      · cases e
      · simp only [Value.ownBlock, Option.some.injEq] at e
        subst e
        exact ⟨_, _, _, hg⟩

set_option maxRecDepth 100000 in
set_option maxHeartbeats 1000000 in
theorem dmake_any {B b c : Nat} {bs : List UInt8} {w : World} (hb : BytesAt b bs w) (hB : B ≤ b) (hc : bs.length ≤ c) (s : Dk) (hi : s.image = bs) (hw : s.waits = []) (hf : s.fuse = -1) (ho : s.ops = 0) (hd : s.down = false) :
    Calls Tryd.prog 80 #[.slice (some ⟨b, 0, none⟩) bs.length c] w fun e w' => e = .returned (.pointer (some ⟨w.heap.size + 1, 0, none⟩)) ∧ DAt B (w.heap.size + 1) b c w.heap.size s (.slice none 0 0) w' ∧ Below w.heap.size w w' := by
  have hmm := @run_makeMap Tryd.prog
  have hBw : B ≤ w.heap.size := by have := hb.lt; omega
  have HB := Lib.hid hb
  have HBB := Lib.hid hB
  have HC := Lib.hid hc
  have HI := Lib.hid hi
  have HW := Lib.hid hw
  have HF : Hid (dA (w.heap.size + 1) s b s.image.length c (.slice none 0 0) w.heap.size = #[.pointer (some ⟨w.heap.size + 1, 0, none⟩), .slice (some ⟨b, 0, none⟩) bs.length c, .slice none 0 0, .map (some w.heap.size), .int .i64 (-1), .int .i64 0, .bool false]) := Lib.hid (by unfold dA; rw [hi, hf, ho, hd]; rfl)
  obtain ⟨L, hL⟩ : ∃ L, L = bs.length := ⟨_, rfl⟩
  rw [← hL] at HF ⊢
  have HL := Lib.hid hL
  clear hb hB hc hi hw hf ho hd hL
  go_enter Tryd.func80, Tryd.ntmps80
  go_wp2
  go_ret
  have k1 : Below w.heap.size w (w.alloc (.map #[] 0)) := box_below _ _
  have k2 : Below w.heap.size w ((w.alloc (.map #[] 0)).alloc (.cells #[.pointer (some ⟨w.heap.size + 1, 0, none⟩), .slice (some ⟨b, 0, none⟩) L c, .slice none 0 0, .map (some w.heap.size), .int .i64 (-1), .int .i64 0, .bool false] 115)) := k1.alloc (by simp) _
  refine ⟨rfl, ⟨by omega, ?_, HBB.out, by rw [HI.out]; exact HC.out, by rw [HI.out]; exact HB.out.kept k2, by rw [HW.out]; exact World.ownsRow_nil _ _ _ _, hBw, ?_⟩, k2⟩
  · rw [HF.out]
    have e := heap_alloc_new (w.alloc (.map #[] 0)) (.cells #[.pointer (some ⟨w.heap.size + 1, 0, none⟩), .slice (some ⟨b, 0, none⟩) L c, .slice none 0 0, .map (some w.heap.size), .int .i64 (-1), .int .i64 0, .bool false] 115)
    simpa using e
  · rw [HW.out]
    exact (MapIs.made eltInt w).stay ((box_below (w.alloc (.map #[] 0)) _).block w.heap.size (by simp))

end Go.Proofs.YtoigembmbajopaaDoor
