/- What the program's parts and its table answer. -/
import Derived.Test.YtdbledfpphkppaaPg5
namespace Go.Proofs.Ytdbledfpphkppaa
end Go.Proofs.Ytdbledfpphkppaa
