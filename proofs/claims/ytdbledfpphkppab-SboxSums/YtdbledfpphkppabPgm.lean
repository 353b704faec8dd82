/- What the program's parts and its table answer. -/
import Derived.Test.YtdbledfpphkppabPg4
namespace Go.Proofs.Ytdbledfpphkppab
end Go.Proofs.Ytdbledfpphkppab
