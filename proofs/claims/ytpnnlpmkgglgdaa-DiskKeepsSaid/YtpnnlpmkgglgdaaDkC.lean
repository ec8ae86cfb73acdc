/- A disk alone: its contract step by step; the statements' own example, out of it. -/
import Derived.Test.YtpnnlpmkgglgdaaDkB
namespace Go.Proofs.Ytpnnlpmkgglgdaa
open Go.RowKit

/-- A disk of that state, in memory of the call's own; all below stands. -/
def DIn (B : Nat) (P : Dk → (Nat → Prop) → World → Prop) (s : Dk) (w0 w : World) : Prop := (∃ Bs, P s Bs w) ∧ Below B w0 w ∧ B ≤ w.heap.size

section
variable {B : Nat} {x : Value} {P : Dk → (Nat → Prop) → World → Prop} (D : DiskOk B x P) {s : Dk} {w0 w : World} (h : DIn B P s w0 w)
include D h

theorem DIn.kept {w' : World} (k : Kept w w') : DIn B P s w0 w' := by
  obtain ⟨⟨Bs, hp⟩, hb, hs⟩ := h
  exact ⟨⟨Bs, D.kept hp k⟩, Below.then' hb k hs, Nat.le_trans hs k.size⟩

omit h in
theorem DIn.of_post {Bs : Nat → Prop} {s' : Dk} {ret : Value} {e : Ending} {w' : World} (hp : P s Bs w) (hb : Below B w0 w) (hs : B ≤ w.heap.size) (post : DPost P Bs s' ret w e w') : e = .returned ret ∧ DIn B P s' w0 w' := by
  obtain ⟨he, ⟨Bs', hp', _⟩, hbut⟩ := post
  exact ⟨he, ⟨Bs', hp'⟩, hbut.kept (fun k hk => (D.above s Bs w hp k hk).1) hb hs, Nat.le_trans hs hbut.size⟩

theorem din_len (hok : s.ok) : Calls Try.prog 18 #[x] w fun e w' => e = .returned (.int .i64 (s.stands.length : Nat)) ∧ DIn B P s w0 w' := by
  have h' := h
  obtain ⟨⟨Bs, hp⟩, _⟩ := h'
  exact (D.len s Bs w hp hok).mono fun e w' ⟨a, b⟩ => ⟨a, DIn.kept D h b⟩
theorem din_down : Calls Try.prog 17 #[x] w fun e w' => e = .returned (.bool s.down) ∧ DIn B P s w0 w' := by
  have h' := h
  obtain ⟨⟨Bs, hp⟩, _⟩ := h'
  exact (D.down s Bs w hp).mono fun e w' ⟨a, b⟩ => ⟨a, DIn.kept D h b⟩
theorem din_waits : Calls Try.prog 15 #[x] w fun e w' => e = .returned (.int .i64 (s.waits.length : Nat)) ∧ DIn B P s w0 w' := by
  have h' := h
  obtain ⟨⟨Bs, hp⟩, _⟩ := h'
  exact (D.waits s Bs w hp).mono fun e w' ⟨a, b⟩ => ⟨a, DIn.kept D h b⟩
theorem din_ops : Calls Try.prog 16 #[x] w fun e w' => e = .returned (.int .i64 (s.ops : Nat)) ∧ DIn B P s w0 w' := by
  have h' := h
  obtain ⟨⟨Bs, hp⟩, _⟩ := h'
  exact (D.ops s Bs w hp).mono fun e w' ⟨a, b⟩ => ⟨a, DIn.kept D h b⟩
theorem din_image (hok : s.ok) : Calls Try.prog 14 #[x] w fun e w' => e = .returned (.string (str s.image)) ∧ DIn B P s w0 w' := by
  have h' := h
  obtain ⟨⟨Bs, hp⟩, _⟩ := h'
  exact (D.image s Bs w hp hok).mono fun e w' ⟨a, b⟩ => ⟨a, DIn.kept D h b⟩
theorem din_read (i : Int) (hok : s.ok) (hlo : s.ops ≤ 4294967296) (hi : (Lit.int .i64 i).wf = true) : Calls Try.prog 19 #[x, .int .i64 i] w fun e w' => e = .returned (.tuple #[.string (str (s.readT i)), .int .i64 (s.readE i)]) ∧ DIn B P s w0 w' := by
  have h' := h
  obtain ⟨⟨Bs, hp⟩, _⟩ := h'
  exact (D.read s Bs w i hp hok hlo hi).mono fun e w' ⟨a, b⟩ => ⟨a, DIn.kept D h b⟩
theorem din_write (i : Int) (t : ByteArray) (hok : s.ok) (hlo : s.ops ≤ 4294967295) (hi : (Lit.int .i64 i).wf = true) (ht : t.size ≤ maxLen) : Calls Try.prog 20 #[x, .int .i64 i, .string t] w fun e w' => e = .returned (.int .i64 (s.writeE i t.data.toList)) ∧ DIn B P (s.writeS i t.data.toList) w0 w' := by
  obtain ⟨⟨Bs, hp⟩, hb, hs⟩ := h
  exact (D.write s Bs w i t hp hok hlo hi ht).mono fun e w' p => DIn.of_post D hp hb hs p
theorem din_flush (hok : s.ok) (hlo : s.ops ≤ 4294967295) : Calls Try.prog 22 #[x] w fun e w' => e = .returned (.int .i64 s.flushE) ∧ DIn B P s.flushS w0 w' := by
  obtain ⟨⟨Bs, hp⟩, hb, hs⟩ := h
  exact (D.flush s Bs w hp hok hlo).mono fun e w' p => DIn.of_post D hp hb hs p
theorem din_power (l : List Bool) (kv : Value) (hok : s.ok) (hlo : s.ops ≤ 4294967296) (hkv : ∀ w', w.heap.size ≤ w'.heap.size → (∀ k, k < B → k < w.heap.size → w'.heap[k]? = w.heap[k]?) → BoolAt l kv w') : Calls Try.prog 23 #[x, kv] w fun e w' => e = .returned (.tuple #[]) ∧ DIn B P (s.powerS l) w0 w' := by
  obtain ⟨⟨Bs, hp⟩, hb, hs⟩ := h
  exact (D.power s Bs w l kv hp hok hlo hkv).mono fun e w' p => DIn.of_post D hp hb hs p
end

def ta : ByteArray := str (secT [97])
def tb : ByteArray := str (secT [98])
def s0 : Dk := Dk.new 3
def s1 : Dk := s0.writeS 1 ta.data.toList
def s2 : Dk := s1.powerS []
def s3 : Dk := s2.writeS 1 tb.data.toList
def s4 : Dk := s3.flushS
def s5 : Dk := s4.powerS []
theorem aw1 : s0.writeE 1 ta.data.toList = 0 ∧ s2.readE 1 = 0 ∧ s2.writeE 1 tb.data.toList = 0 ∧ s3.flushE = 0 ∧ s5.readE 1 = 0 := by decide +kernel
theorem aw2 : s2.readT 1 = zeroT ∧ s5.readT 1 = secT [98] ∧ s5.image.length = 384 ∧ s5.ops = 3 := by decide +kernel
theorem ok0 : s0.ok := Dk.ok.new (by decide) (by decide)
theorem ok1 : s1.ok := ok0.write _ _
theorem ok2 : s2.ok := ok1.power _
theorem ok3 : s3.ok := ok2.write _ _
theorem ok4 : s4.ok := ok3.flush
theorem ok5 : s5.ok := ok4.power _
theorem lo0 : s0.ops ≤ 3 ∧ s1.ops ≤ 3 ∧ s2.ops ≤ 3 ∧ s3.ops ≤ 3 ∧ s4.ops ≤ 3 ∧ s5.ops ≤ 3 := by decide +kernel

set_option maxRecDepth 100000 in
set_option maxHeartbeats 4000000 in
theorem dawake_of (ND : NewDisk) (w : World) : Calls Try.prog 8 #[] w (LawPost w) := by
  have N3 := ND 3 w
  have SA := fun W => sector_any ⟨#[97]⟩ W
  have SB := fun W => sector_any ⟨#[98]⟩ W
  rw [show str (secT (⟨#[97]⟩ : ByteArray).data.toList) = ta from rfl] at SA
  rw [show str (secT (⟨#[98]⟩ : ByteArray).data.toList) = tb from rfl] at SB
  have hta : ta.size ≤ maxLen := by decide +kernel
  have htb : tb.size ≤ maxLen := by decide +kernel
  have LO := Lib.hid lo0
  have hmk := fun w' => make_zero w'
  have hcv := fun w' b hb => conv_zero w' b hb
  obtain ⟨Z, hZ⟩ : ∃ Z, Z = zeroZ := ⟨_, rfl⟩
  rw [← hZ] at hmk hcv
  obtain ⟨tz, htz⟩ : ∃ tz, tz = str zeroT := ⟨_, rfl⟩
  rw [← htz] at hcv
  have HTZ := Lib.hid htz
  have HCV := Lib.hid hcv
  have HTA := Lib.hid hta
  have HTB := Lib.hid htb
  obtain ⟨xb, hxb⟩ : ∃ xb, xb = tb := ⟨_, rfl⟩
  obtain ⟨xa, hxa⟩ : ∃ xa, xa = ta := ⟨_, rfl⟩
  rw [← hxa] at SA
  rw [← hxb] at SB
  have HXA := Lib.hid hxa
  have HXB := Lib.hid hxb
  clear hZ htz ND hta htb hcv hxa hxb
  go_enter Try.func8, Try.ntmps8
  go_wp2_with fail
  refine N3.mono ?_
  rintro e w1 ⟨hb0, ⟨hn, _⟩ | ⟨-, ad, P, Bs0, rfl, D, hd0⟩⟩
  · exact absurd ⟨by decide, by decide⟩ hn
  rw [show Dk.new (3 : Int).toNat = s0 from rfl] at hd0
  have I1 : Hid (DIn w.heap.size P s0 w w1) := Lib.hid ⟨⟨Bs0, hd0⟩, hb0, hb0.size⟩
  have HD := Lib.hid D
  clear D hd0 hb0 N3
  -- Write, Power, Read
  go_wp2_with fail
  refine (SA w1).mono ?_
  rintro e w2 ⟨rfl, hk2⟩
  have C2 := din_write HD.out (DIn.kept HD.out I1.out hk2) 1 ta ok0 (Nat.le_trans LO.out.1 (by decide)) (by decide) HTA.out
  rw [aw1.1, ← HXA.out] at C2
  clear hk2 I1
  go_wp2_with fail
  refine C2.mono ?_
  rintro e w3 ⟨rfl, hi3⟩
  have I3 : Hid (DIn w.heap.size P s1 w w3) := Lib.hid (by rw [HXA.out] at hi3; exact hi3)
  clear hi3 C2
  have C4 := din_power HD.out I3.out [] (.slice none 0 0) ok1 (Nat.le_trans LO.out.2.1 (by decide)) (fun w' _ _ => BoolAt.nil w')
  go_wp2_with fail
  refine C4.mono ?_
  rintro e w4 ⟨rfl, hi4⟩
  have I4 : Hid (DIn w.heap.size P s2 w w4) := Lib.hid hi4
  clear hi4 C4 I3
  have C5 := din_read HD.out I4.out 1 ok2 (Nat.le_trans LO.out.2.2.1 (by decide)) (by decide)
  rw [aw1.2.1, aw2.1, ← HTZ.out] at C5
  go_wp2_with fail
  refine C5.mono ?_
  rintro e w5 ⟨rfl, hi5⟩
  have I5 : Hid (DIn w.heap.size P s2 w w5) := Lib.hid hi5
  clear hi5 C5 I4
  -- Write, Flush, Power, Read
  go_wp2_with fail
  refine (SB w5).mono ?_
  rintro e w6 ⟨rfl, hk6⟩
  have C6 := din_write HD.out (DIn.kept HD.out I5.out hk6) 1 tb ok2 (Nat.le_trans LO.out.2.2.1 (by decide)) (by decide) HTB.out
  rw [aw1.2.2.1, ← HXB.out] at C6
  clear hk6 I5
  go_wp2_with fail
  refine C6.mono ?_
  rintro e w7 ⟨rfl, hi7⟩
  have I7 : Hid (DIn w.heap.size P s3 w w7) := Lib.hid (by rw [HXB.out] at hi7; exact hi7)
  clear hi7 C6
  have C8 := din_flush HD.out I7.out ok3 (Nat.le_trans LO.out.2.2.2.1 (by decide))
  rw [aw1.2.2.2.1] at C8
  go_wp2_with fail
  refine C8.mono ?_
  rintro e w8 ⟨rfl, hi8⟩
  have I8 : Hid (DIn w.heap.size P s4 w w8) := Lib.hid hi8
  clear hi8 C8 I7
  have C9 := din_power HD.out I8.out [] (.slice none 0 0) ok4 (Nat.le_trans LO.out.2.2.2.2.1 (by decide)) (fun w' _ _ => BoolAt.nil w')
  go_wp2_with fail
  refine C9.mono ?_
  rintro e w9 ⟨rfl, hi9⟩
  have I9 : Hid (DIn w.heap.size P s5 w w9) := Lib.hid hi9
  clear hi9 C9 I8
  have C10 := din_read HD.out I9.out 1 ok5 (Nat.le_trans LO.out.2.2.2.2.2 (by decide)) (by decide)
  rw [aw1.2.2.2.2, aw2.2.1] at C10
  rw [show str (secT [98]) = tb from rfl, ← HXB.out] at C10
  go_wp2_with fail
  refine C10.mono ?_
  rintro e w10 ⟨rfl, hi10⟩
  have I10 : Hid (DIn w.heap.size P s5 w w10) := Lib.hid hi10
  clear hi10 C10 I9
  have cv : (convert 50 9 (.slice (some ⟨w10.heap.size, 0, none⟩) 128 128)).run Try.prog (w10.alloc (.cells Z 5)) = .ok (.string tz) (w10.alloc (.cells Z 5)) := HCV.out _ _ (heap_alloc_new w10 _)
  have bz : (tz.toList == tz.toList) = true := by simp
  have bx : (xb.toList == xb.toList) = true := by simp
  have I11 : Hid (DIn w.heap.size P s5 w (w10.alloc (.cells Z 5))) := Lib.hid (DIn.kept HD.out I10.out (box_below _ _))
  go_wp2_with fail
  refine (SB _).mono ?_
  rintro e w12 ⟨rfl, hk12⟩
  have C13 := din_image HD.out (DIn.kept HD.out I11.out hk12) ok5
  obtain ⟨im, him⟩ : ∃ im, im = str s5.image := ⟨_, rfl⟩
  rw [← him] at C13
  have his : im.size = 384 := by rw [him, str_size]; exact aw2.2.2.1
  clear hk12 I10 I11 him cv bz
  go_wp2_with fail
  refine C13.mono ?_
  rintro e w13 ⟨rfl, hi13⟩
  have C14 := din_ops HD.out hi13
  rw [aw2.2.2.2] at C14
  have bi : ((im.size : Int) == 384) = true := by rw [his]; rfl
  clear hi13 C13 his
  go_wp2_with fail
  refine C14.mono ?_
  rintro e w14 ⟨rfl, hi14⟩
  have I14 := Lib.hid hi14
  clear hi14 C14
  go_wp2
  go_ret
  exact ⟨rfl, I14.out.2.1⟩

end Go.Proofs.Ytpnnlpmkgglgdaa
